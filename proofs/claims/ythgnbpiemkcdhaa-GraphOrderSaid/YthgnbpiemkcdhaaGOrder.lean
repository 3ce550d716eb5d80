/-
  GraphOrder: the walk of the law.
-/
import Derived.Test.YthgnbpiemkcdhaaGOrderA
import Derived.Test.YthgnbpiemkcdhaaGTells
import Derived.Test.YthgnbpiemkcdhaaGShort
namespace Go.Proofs.Ythgnbpiemkcdhaa
open Go.RowKit Go.Shelf Go.WideShapes
set_option linter.unusedVariables false

theorem keep3 {W X X' : World} {p q r : Addr} {B : Nat} {u0 u1 u2 : Value} (H : X.cell? p = some u0 ∧ X.cell? q = some u1 ∧ X.cell? r = some u2 ∧ Below B W X) (hB : W.heap.size = B) (hb : Below X.heap.size X X') :
    X'.cell? p = some u0 ∧ X'.cell? q = some u1 ∧ X'.cell? r = some u2 ∧ Below B W X' := by
  have hs := H.2.2.2.size
  exact ⟨(hb.cell (World.block_lt_of_cell? _ _ H.1)).trans H.1, (hb.cell (World.block_lt_of_cell? _ _ H.2.1)).trans H.2.1, (hb.cell (World.block_lt_of_cell? _ _ H.2.2.1)).trans H.2.2.1, H.2.2.2.trans (hb.mono (by omega))⟩
/-- The first k edges lead down, and the graph is valid. -/
def downB (N : Int) (ps : List (Int × Int)) (k : Nat) (d : Bool) : Prop := d = true ↔ gchk N ps = 0 ∧ ∀ j, j < k → (ps.getD j (0, 0)).2 < (ps.getD j (0, 0)).1
theorem downB.next {N : Int} {ps : List (Int × Int)} {k : Nat} {x y : Int} (h : downB N ps k true) (he : ps.getD k (0, 0) = (x, y)) (b : Bool) (hb : b = true ↔ y < x) : downB N ps (k + 1) b := by
  unfold downB at h ⊢
  have h' := h.1 rfl
  rw [hb]
  constructor
  · intro hyx
    refine ⟨h'.1, fun j hj => ?_⟩
    by_cases e : j = k
    · subst e; rw [he]; exact hyx
    · exact h'.2 j (by omega)
  · rintro ⟨_, h2⟩
    have := h2 k (Nat.lt_succ_self k)
    rwa [he] at this
theorem downB.stay {N : Int} {ps : List (Int × Int)} {k : Nat} (h : downB N ps k false) : downB N ps (k + 1) false := by
  unfold downB at h ⊢
  constructor
  · intro e; cases e
  · rintro ⟨h1, h2⟩
    exact h.2 ⟨h1, fun j hj => h2 j (by omega)⟩

set_option maxHeartbeats 8000000 in
set_option maxRecDepth 100000 in
theorem order_good (N : Int) (a : Option Addr) (n c : Nat) (ps : List (Int × Int)) (hl : ps.length = n) (root : Int) (w : World) (hE : Edg w a c ps) (hn : n ≤ 300) (hN : N ≤ 300) :
    Calls Try.prog 9 #[.agg #[.int .i64 N, .slice a n c], .int .i64 root] w fun e w' => e = .returned (.bool true) ∧ Below w.heap.size w w' := by
  have hcap : n ≤ maxLen := by unfold maxLen; omega
  have hF := ordF N ps root
  obtain ⟨P, hP⟩ : ∃ P, postA N ps root = P := ⟨_, rfl⟩
  obtain ⟨q, hq⟩ : ∃ q, P.length = q := ⟨_, rfl⟩
  obtain ⟨R, hR⟩ : ∃ R, reachA N ps root = R := ⟨_, rfl⟩
  rw [hP, hR] at hF
  have hRq : R.length = q := hF.len.trans hq
  obtain ⟨kc, hk⟩ : ∃ k, gchk N ps = k := ⟨_, rfl⟩
  have hd1 : decide ((300 : Int) < (n : Int)) = false := by simp; omega
  have hd2 : decide ((300 : Int) < N) = false := by simp; omega
  obtain ⟨w0, hw0⟩ : ∃ w0, w.alloc (Obj.cells #[Value.int .i64 N, Value.slice a n c] 24) = w0 := ⟨_, rfl⟩
  have hz0 : w.heap.size < w0.heap.size := by rw [← hw0]; simp
  have q0 : w0.cell? ⟨w.heap.size, 0, none⟩ = some (.int .i64 N) := by rw [← hw0]; simp [go_sem]
  have q1 : w0.cell? ⟨w.heap.size, 1, none⟩ = some (.slice a n c) := by rw [← hw0]; simp [go_sem]
  have HB0 : Hid (Below w.heap.size w w0) := by show Below _ _ _; rw [← hw0]; exact (Below.refl w.heap.size w).alloc (Nat.le_refl _) _
  have HE := Lib.hid hE
  have Hw0 := Lib.hid hw0
  have Hl := Lib.hid hl
  have Hk := Lib.hid hk
  have HF := Lib.hid hF
  have HP := Lib.hid hP
  have Hq := Lib.hid hq
  have HR := Lib.hid hR
  have HRq := Lib.hid hRq
  clear hE hl hk hw0 hF hP hq hR hRq
  go_enter Try.func9, Try.ntmps9
  go_wp2_with fail
  rw [Hw0.out]
  refine (postA_at N a n c ps root P q HP.out Hq.out w0 Hl.out (HE.out.below HB0.out (Nat.le_refl _))).mono ?_
  rintro e w1 ⟨b1, j1, rfl, hi1, hm1, hq1, hb1⟩
  have hz1 : w.heap.size < w1.heap.size := by have := hb1.size; omega
  have c0 := (hb1.cell (p := ⟨w.heap.size, 0, none⟩) hz0).trans q0
  have c1 := (hb1.cell (p := ⟨w.heap.size, 1, none⟩) hz0).trans q1
  have c0a : ∀ o, (w1.alloc o).cell? ⟨w.heap.size, 0, none⟩ = some (.int .i64 N) := fun o => (((Below.refl w1.heap.size w1).alloc (Nat.le_refl _) o).cell (p := ⟨w.heap.size, 0, none⟩) hz1).trans c0
  have c1a : ∀ o, (w1.alloc o).cell? ⟨w.heap.size, 1, none⟩ = some (.slice a n c) := fun o => (((Below.refl w1.heap.size w1).alloc (Nat.le_refl _) o).cell (p := ⟨w.heap.size, 1, none⟩) hz1).trans c1
  have Hi1 := Lib.hid hi1
  have HB1 := Lib.hid (HB0.out.trans (hb1.mono (Nat.le_of_lt hz0)))
  clear hi1 hb1 q0 q1
  go_wp2_with fail
  refine (reachA_at N a n c ps _ _ root R q HR.out HRq.out _ Hl.out (HE.out.below (HB1.out.alloc (Nat.le_of_lt hz1) _) (Nat.le_refl _)) (one_ints _ _ _)).mono ?_
  rintro e w2 ⟨b2, j2, rfl, hi2, hm2, hb2⟩
  have hz2 : w1.heap.size < w2.heap.size := by have := hb2.size; simp at this; omega
  have d0 := (hb2.cell (p := ⟨w.heap.size, 0, none⟩) (by simp; omega)).trans (c0a _)
  have d1 := (hb2.cell (p := ⟨w.heap.size, 1, none⟩) (by simp; omega)).trans (c1a _)
  have Hi1' := Lib.hid (Hi1.out.below (((Below.refl w1.heap.size w1).alloc (Nat.le_refl _) (Obj.cells #[.int .i64 root] 3)).trans (hb2.mono (by simp))) (Nat.le_refl _))
  have Hi2 := Lib.hid hi2
  have HB2 := Lib.hid ((HB1.out.alloc (Nat.le_of_lt hz1) (Obj.cells #[.int .i64 root] 3)).trans (hb2.mono (by simp; omega)))
  clear hi2 hb2 c0 c1 c0a c1a
  have hqb : q ≤ maxLen := hm2
  have hqb' := hqb
  unfold maxLen at hqb'
  rcases Nat.eq_zero_or_pos q with hq0 | hq0
  · have e1 : decide ((0 : Int) < (q : Int)) = false := by simp; omega
    have e2 : decide (0 < q) = false := by simp; omega
    have e3 : ¬ 0 < q := by omega
    clear hq0
    go_wp2_with fail
    go_loopw [7] (fun i wr => ∃ x : Nat, x ≤ q ∧ i = .int .i64 x ∧ Drawn w2 wr) (fun i _ => q - (intOf i).toNat)
    case atStart => exact ⟨0, Nat.zero_le _, rfl, .refl _⟩
    case round =>
      obtain ⟨x, hx, rfl, hdr⟩ := hrel
      have Hdr := Lib.hid hdr
      have hsr := (hdr.below w2.heap.size).size
      have f0 := ((hdr.below w2.heap.size).cell (p := ⟨w.heap.size, 0, none⟩) (by show w.heap.size < _; omega)).trans d0
      have f1 := ((hdr.below w2.heap.size).cell (p := ⟨w.heap.size, 1, none⟩) (by show w.heap.size < _; omega)).trans d1
      clear hdr
      by_cases hlt : x < q
      · obtain ⟨pb', po', hpb', hcx⟩ := (Hi1'.out.drawn Hdr.out) (by rw [Hq.out]; omega)
        cases hpb'
        have hcy := hcx x (by rw [Hq.out]; exact hlt)
        have hr1 := HF.out.has x (by rw [Hq.out]; exact hlt)
        have hr2 := HF.out.new x (by rw [Hq.out]; exact hlt)
        obtain ⟨y, hy⟩ : ∃ y, P.getD x 0 = y := ⟨_, rfl⟩
        rw [hy] at hcy hr1 hr2
        have Hr1 := Lib.hid hr1
        have Hr2 := Lib.hid hr2
        have Hlx : Hid ((P.take x).length = x) := by show _ = _; rw [List.length_take, Hq.out]; omega
        have hx1 : (0 : Int) ≤ (x : Int) := by omega
        have hx2 : (x : Int) ≤ (j1 : Int) := by omega
        have hx3 : (x : Int) < (q : Int) := by omega
        have hxm : x ≤ maxLen := by omega
        clear hcx hy hr1 hr2
        go_wp2
        go_quiet ((first
          | (go_at_call 25; with_reducible exact Calls.quiet_of_same (in_at _ q j2 R y true Hr1.out HRq.out _ hm2 ((Hi2.out.drawn Hdr.out).drewN _)))
          | (go_at_call 25; with_reducible exact Calls.quiet_of_same (in_at _ x j1 (P.take x) y false Hr2.out Hlx.out _ hxm (((Hi1'.out.take x).drawn Hdr.out).drewN _)))))
        go_wp2
        go_roundw
        case rel => exact ⟨x + 1, by omega, by go_num, Hdr.out.step _⟩
        case measure => simp [intOf]; omega
      · obtain rfl : q = x := by omega
        have HBr := Lib.hid (HB2.out.trans (Hdr.out.below _))
        have hzr : w.heap.size < wr.heap.size := by omega
        go_wp2_with fail
        refine (rchk_at N a n c ps kc Hk.out _ Hl.out hcap (HE.out.below HBr.out (Nat.le_refl _)).pairs).mono ?_
        rintro e w3 ⟨rfl, hb3⟩
        have hz3 : w.heap.size < w3.heap.size := by have := hb3.size; omega
        have g0 := (hb3.cell (p := ⟨w.heap.size, 0, none⟩) hzr).trans f0
        have g1 := (hb3.cell (p := ⟨w.heap.size, 1, none⟩) hzr).trans f1
        have HB3 := Lib.hid (HBr.out.trans (hb3.mono (Nat.le_of_lt hzr)))
        have Hi3 := Lib.hid ((Hi1'.out.drawn Hdr.out).below hb3 (Nat.le_refl _))
        clear hb3 f0 f1 d0 d1
        go_wp2_with fail
        go_loopw [8, 9] (fun dn i W => ∃ (j : Nat) (d : Bool), j ≤ n ∧ i = .int .i64 j ∧ dn = .bool d ∧ downB N ps j d ∧ Drawn w3 W) (fun _ i _ => n - (intOf i).toNat)
        case atStart => exact ⟨0, (kc == 0), Nat.zero_le _, rfl, rfl, by unfold downB; rw [beq_iff_eq, Hk.out]; exact ⟨fun h => ⟨h, fun j hj => by omega⟩, fun h => h.1⟩, .refl _⟩
        case round =>
          obtain ⟨j, d, hj, rfl, rfl, hd, hdr⟩ := hrel
          have Hd := Lib.hid hd
          have Hdr3 := Lib.hid hdr
          have hsr3 := (hdr.below w3.heap.size).size
          have f0 := ((hdr.below w3.heap.size).cell (p := ⟨w.heap.size, 0, none⟩) hz3).trans g0
          have f1 := ((hdr.below w3.heap.size).cell (p := ⟨w.heap.size, 1, none⟩) hz3).trans g1
          clear hd hdr
          by_cases hlt2 : j < n
          · cases d with
            | false =>
              go_wp2
              go_quiet (fail)
              go_wp2
              go_roundw
              case rel => exact ⟨j + 1, false, by omega, by go_num, rfl, Hd.out.stay, Hdr3.out.step _⟩
              case measure => simp [intOf]; omega
            | true =>
              obtain ⟨eb, eo, rfl, hec⟩ := (HE.out.pairs.below (HB3.out.trans ((Hdr3.out.below w3.heap.size).mono (Nat.le_of_lt hz3))) (Nat.le_refl _)) (by rw [Hl.out]; omega)
              obtain ⟨hex, hey⟩ := hec j (by rw [Hl.out]; exact hlt2)
              obtain ⟨⟨u, v⟩, he⟩ : ∃ e, ps.getD j (0, 0) = e := ⟨_, rfl⟩
              rw [he] at hex hey
              have He := Lib.hid he
              have hj1 : (0 : Int) ≤ (j : Int) := by omega
              have hj2 : (j : Int) < (n : Int) := by omega
              clear hec he
              by_cases hvu : v < u
              · have hb1 : decide (v < u) = true := by simpa using hvu
                have Hn := Lib.hid (Hd.out.next He.out true (by simp [hvu]))
                go_wp2
                go_quiet (fail)
                go_wp2
                go_roundw
                case rel => exact ⟨j + 1, true, by omega, by go_num, rfl, Hn.out, Hdr3.out.step _⟩
                case measure => simp [intOf]; omega
              · have hb1 : decide (v < u) = false := by simpa using hvu
                have Hn := Lib.hid (Hd.out.next He.out false (by simp [hvu]))
                go_wp2
                go_quiet (fail)
                go_wp2
                go_roundw
                case rel => exact ⟨j + 1, false, by omega, by go_num, rfl, Hn.out, Hdr3.out.step _⟩
                case measure => simp [intOf]; omega
          · obtain rfl : n = j := by omega
            have HB4 := Lib.hid (HB3.out.trans ((Hdr3.out.below w3.heap.size).mono (Nat.le_of_lt hz3)))
            have Hi4 := Lib.hid (Hi3.out.drawn Hdr3.out)
            have hz4 : w.heap.size < wr.heap.size := by omega
            clear g0 g1
            cases d with
            | false =>
              go_wp2_with fail
              go_loopw [10] (fun i W => ∃ x : Nat, x ≤ q ∧ i = .int .i64 x ∧ Below wr.heap.size wr W) (fun i _ => q - (intOf i).toNat)
              case atStart => exact ⟨0, Nat.zero_le _, rfl, .refl _ _⟩
              case round =>
                obtain ⟨z, hz, rfl, hb⟩ := hrel
                have Hb := Lib.hid (HB4.out.trans (hb.mono (Nat.le_of_lt hz4)))
                clear hb
                by_cases hlt3 : z < q
                all_goals
                  go_wp2_with (go_at_call 10; refine (awake_any _).mono ?_; rintro e wA ⟨rfl, hbA⟩)
                  go_ret
                  exact ⟨rfl, Hb.out.trans (hbA.mono Hb.out.size)⟩
            | true =>
              have hdn := Hd.out.1 rfl
              have Hdn := Lib.hid (HF.out.down hdn.1 (by rw [Hl.out]; exact hdn.2))
              clear hdn
              go_wp2_with fail
              go_loopw [10] (fun i W => ∃ x : Nat, x ≤ q ∧ i = .int .i64 x ∧ Below wr.heap.size wr W) (fun i _ => q - (intOf i).toNat)
              case atStart => exact ⟨0, Nat.zero_le _, rfl, .refl _ _⟩
              case round =>
                obtain ⟨z, hz, rfl, hb⟩ := hrel
                have Hbz := Lib.hid hb
                have Hb := Lib.hid (HB4.out.trans (hb.mono (Nat.le_of_lt hz4)))
                have hsz5 := hb.size
                have k0 := (hb.cell (p := ⟨w.heap.size, 0, none⟩) hz4).trans f0
                have k1 := (hb.cell (p := ⟨w.heap.size, 1, none⟩) hz4).trans f1
                clear hb
                by_cases hlt3 : z < q
                · exfalso; omega
                · go_wp2_with (go_at_call 10; refine (awake_any _).mono ?_; rintro e wA ⟨rfl, hbA⟩)
                  go_ret
                  exact ⟨rfl, Hb.out.trans (hbA.mono Hb.out.size)⟩
  · have e1 : decide ((0 : Int) < (q : Int)) = true := by simp; omega
    have e2 : decide (0 < q) = true := by simp; omega
    obtain ⟨pb, po, hpb, hc⟩ := Hi1'.out (by rw [Hq.out]; exact hq0)
    subst hpb
    have hc1 := hc (q - 1) (by rw [Hq.out]; omega)
    have hlast := HF.out.last (by rw [Hq.out]; exact hq0)
    rw [Hq.out] at hlast
    rw [hlast] at hc1
    clear hc hlast
    go_wp2_with fail
    go_loopw [7] (fun i wr => ∃ x : Nat, x ≤ q ∧ i = .int .i64 x ∧ Drawn w2 wr) (fun i _ => q - (intOf i).toNat)
    case atStart => exact ⟨0, Nat.zero_le _, rfl, .refl _⟩
    case round =>
      obtain ⟨x, hx, rfl, hdr⟩ := hrel
      have Hdr := Lib.hid hdr
      have hsr := (hdr.below w2.heap.size).size
      have f0 := ((hdr.below w2.heap.size).cell (p := ⟨w.heap.size, 0, none⟩) (by show w.heap.size < _; omega)).trans d0
      have f1 := ((hdr.below w2.heap.size).cell (p := ⟨w.heap.size, 1, none⟩) (by show w.heap.size < _; omega)).trans d1
      clear hdr
      by_cases hlt : x < q
      · obtain ⟨pb', po', hpb', hcx⟩ := (Hi1'.out.drawn Hdr.out) (by rw [Hq.out]; omega)
        cases hpb'
        have hcy := hcx x (by rw [Hq.out]; exact hlt)
        have hr1 := HF.out.has x (by rw [Hq.out]; exact hlt)
        have hr2 := HF.out.new x (by rw [Hq.out]; exact hlt)
        obtain ⟨y, hy⟩ : ∃ y, P.getD x 0 = y := ⟨_, rfl⟩
        rw [hy] at hcy hr1 hr2
        have Hr1 := Lib.hid hr1
        have Hr2 := Lib.hid hr2
        have Hlx : Hid ((P.take x).length = x) := by show _ = _; rw [List.length_take, Hq.out]; omega
        have hx1 : (0 : Int) ≤ (x : Int) := by omega
        have hx2 : (x : Int) ≤ (j1 : Int) := by omega
        have hx3 : (x : Int) < (q : Int) := by omega
        have hxm : x ≤ maxLen := by omega
        clear hcx hy hr1 hr2
        go_wp2
        go_quiet ((first
          | (go_at_call 25; with_reducible exact Calls.quiet_of_same (in_at _ q j2 R y true Hr1.out HRq.out _ hm2 ((Hi2.out.drawn Hdr.out).drewN _)))
          | (go_at_call 25; with_reducible exact Calls.quiet_of_same (in_at _ x j1 (P.take x) y false Hr2.out Hlx.out _ hxm (((Hi1'.out.take x).drawn Hdr.out).drewN _)))))
        go_wp2
        go_roundw
        case rel => exact ⟨x + 1, by omega, by go_num, Hdr.out.step _⟩
        case measure => simp [intOf]; omega
      · obtain rfl : q = x := by omega
        have HBr := Lib.hid (HB2.out.trans (Hdr.out.below _))
        have hzr : w.heap.size < wr.heap.size := by omega
        go_wp2_with fail
        refine (rchk_at N a n c ps kc Hk.out _ Hl.out hcap (HE.out.below HBr.out (Nat.le_refl _)).pairs).mono ?_
        rintro e w3 ⟨rfl, hb3⟩
        have hz3 : w.heap.size < w3.heap.size := by have := hb3.size; omega
        have g0 := (hb3.cell (p := ⟨w.heap.size, 0, none⟩) hzr).trans f0
        have g1 := (hb3.cell (p := ⟨w.heap.size, 1, none⟩) hzr).trans f1
        have HB3 := Lib.hid (HBr.out.trans (hb3.mono (Nat.le_of_lt hzr)))
        have Hi3 := Lib.hid ((Hi1'.out.drawn Hdr.out).below hb3 (Nat.le_refl _))
        clear hb3 f0 f1 d0 d1
        go_wp2_with fail
        go_loopw [8, 9] (fun dn i W => ∃ (j : Nat) (d : Bool), j ≤ n ∧ i = .int .i64 j ∧ dn = .bool d ∧ downB N ps j d ∧ Drawn w3 W) (fun _ i _ => n - (intOf i).toNat)
        case atStart => exact ⟨0, (kc == 0), Nat.zero_le _, rfl, rfl, by unfold downB; rw [beq_iff_eq, Hk.out]; exact ⟨fun h => ⟨h, fun j hj => by omega⟩, fun h => h.1⟩, .refl _⟩
        case round =>
          obtain ⟨j, d, hj, rfl, rfl, hd, hdr⟩ := hrel
          have Hd := Lib.hid hd
          have Hdr3 := Lib.hid hdr
          have hsr3 := (hdr.below w3.heap.size).size
          have f0 := ((hdr.below w3.heap.size).cell (p := ⟨w.heap.size, 0, none⟩) hz3).trans g0
          have f1 := ((hdr.below w3.heap.size).cell (p := ⟨w.heap.size, 1, none⟩) hz3).trans g1
          clear hd hdr
          by_cases hlt2 : j < n
          · cases d with
            | false =>
              go_wp2
              go_quiet (fail)
              go_wp2
              go_roundw
              case rel => exact ⟨j + 1, false, by omega, by go_num, rfl, Hd.out.stay, Hdr3.out.step _⟩
              case measure => simp [intOf]; omega
            | true =>
              obtain ⟨eb, eo, rfl, hec⟩ := (HE.out.pairs.below (HB3.out.trans ((Hdr3.out.below w3.heap.size).mono (Nat.le_of_lt hz3))) (Nat.le_refl _)) (by rw [Hl.out]; omega)
              obtain ⟨hex, hey⟩ := hec j (by rw [Hl.out]; exact hlt2)
              obtain ⟨⟨u, v⟩, he⟩ : ∃ e, ps.getD j (0, 0) = e := ⟨_, rfl⟩
              rw [he] at hex hey
              have He := Lib.hid he
              have hj1 : (0 : Int) ≤ (j : Int) := by omega
              have hj2 : (j : Int) < (n : Int) := by omega
              clear hec he
              by_cases hvu : v < u
              · have hb1 : decide (v < u) = true := by simpa using hvu
                have Hn := Lib.hid (Hd.out.next He.out true (by simp [hvu]))
                go_wp2
                go_quiet (fail)
                go_wp2
                go_roundw
                case rel => exact ⟨j + 1, true, by omega, by go_num, rfl, Hn.out, Hdr3.out.step _⟩
                case measure => simp [intOf]; omega
              · have hb1 : decide (v < u) = false := by simpa using hvu
                have Hn := Lib.hid (Hd.out.next He.out false (by simp [hvu]))
                go_wp2
                go_quiet (fail)
                go_wp2
                go_roundw
                case rel => exact ⟨j + 1, false, by omega, by go_num, rfl, Hn.out, Hdr3.out.step _⟩
                case measure => simp [intOf]; omega
          · obtain rfl : n = j := by omega
            have HB4 := Lib.hid (HB3.out.trans ((Hdr3.out.below w3.heap.size).mono (Nat.le_of_lt hz3)))
            have Hi4 := Lib.hid (Hi3.out.drawn Hdr3.out)
            have hz4 : w.heap.size < wr.heap.size := by omega
            clear g0 g1
            cases d with
            | false =>
              go_wp2_with fail
              go_loopw [10] (fun i W => ∃ x : Nat, x ≤ q ∧ i = .int .i64 x ∧ Below wr.heap.size wr W) (fun i _ => q - (intOf i).toNat)
              case atStart => exact ⟨0, Nat.zero_le _, rfl, .refl _ _⟩
              case round =>
                obtain ⟨z, hz, rfl, hb⟩ := hrel
                have Hb := Lib.hid (HB4.out.trans (hb.mono (Nat.le_of_lt hz4)))
                clear hb
                by_cases hlt3 : z < q
                all_goals
                  go_wp2_with (go_at_call 10; refine (awake_any _).mono ?_; rintro e wA ⟨rfl, hbA⟩)
                  go_ret
                  exact ⟨rfl, Hb.out.trans (hbA.mono Hb.out.size)⟩
            | true =>
              have hdn := Hd.out.1 rfl
              have Hdn := Lib.hid (HF.out.down hdn.1 (by rw [Hl.out]; exact hdn.2))
              clear hdn
              go_wp2_with fail
              go_loopw [10] (fun i W => ∃ x : Nat, x ≤ q ∧ i = .int .i64 x ∧ Below wr.heap.size wr W) (fun i _ => q - (intOf i).toNat)
              case atStart => exact ⟨0, Nat.zero_le _, rfl, .refl _ _⟩
              case round =>
                obtain ⟨z, hz, rfl, hb⟩ := hrel
                have Hbz := Lib.hid hb
                have Hb := Lib.hid (HB4.out.trans (hb.mono (Nat.le_of_lt hz4)))
                have hsz5 := hb.size
                have k0 := (hb.cell (p := ⟨w.heap.size, 0, none⟩) hz4).trans f0
                have k1 := (hb.cell (p := ⟨w.heap.size, 1, none⟩) hz4).trans f1
                clear hb
                by_cases hlt3 : z < q
                · obtain ⟨pb', po', hpb', hcx⟩ := (Hi4.out.below Hbz.out (Nat.le_refl _)) (by rw [Hq.out]; omega)
                  cases hpb'
                  have hcy := hcx z (by rw [Hq.out]; exact hlt3)
                  have hdy := Hdn.out z (by rw [Hq.out]; exact hlt3)
                  obtain ⟨y, hy⟩ : ∃ y, P.getD z 0 = y := ⟨_, rfl⟩
                  rw [hy] at hcy hdy
                  obtain ⟨S, hS⟩ : ∃ S, succA N ps y = S := ⟨_, rfl⟩
                  obtain ⟨s, hs⟩ : ∃ s, S.length = s := ⟨_, rfl⟩
                  rw [hS] at hdy
                  have Hdy := Lib.hid hdy
                  have HS := Lib.hid hS
                  have Hs := Lib.hid hs
                  have hn5 : n ≤ 100000 := by omega
                  have hx1 : (0 : Int) ≤ (z : Int) := by omega
                  have hx2 : (z : Int) ≤ (j1 : Int) := by omega
                  have hx3 : (z : Int) < (q : Int) := by omega
                  have hzm : z ≤ maxLen := by omega
                  have hS0 : wr.drew.cell? ⟨w.heap.size, 0, none⟩ = some (.int .i64 N) ∧ wr.drew.cell? ⟨w.heap.size, 1, none⟩ = some (.slice a n c) ∧ wr.drew.cell? ⟨pb, po + z, none⟩ = some (.int .i64 y) ∧ Below wr.heap.size wr wr.drew := ⟨k0, k1, hcy, Drawn.below ⟨1, rfl⟩ _⟩
                  clear hcx hy hdy hS hs
                  go_wp2
                  go_region_held3 (fun X => X.cell? ⟨w.heap.size, 0, none⟩ = some (.int .i64 N) ∧ X.cell? ⟨w.heap.size, 1, none⟩ = some (.slice a n c) ∧ X.cell? ⟨pb, po + z, none⟩ = some (.int .i64 y) ∧ Below wr.heap.size wr X)
                    (first | with_reducible assumption | fail)
                    (first
                      | (go_at_call 15; (with_reducible refine Calls.mono (rsuccA_at N a n c ps y S s HS.out Hs.out _ Hl.out hn5 (HE.out.below (Hb.out.trans ((by exact (by assumption : _ ∧ _ ∧ _ ∧ Below wr.heap.size wr _).2.2.2.mono Hb.out.size))) (Nat.le_refl _)).pairs) ?_); rintro e wA ⟨b5, j5, rfl, hi5, hm5, hbA⟩; have hSA := keep3 (by assumption) rfl hbA))
                  have hm5' := hm5
                  unfold maxLen at hm5'
                  have HbA := Lib.hid hSA.2.2.2
                  have Hi5 := Lib.hid hi5
                  have Hi6 := Lib.hid (((Hi4.out.below Hbz.out (Nat.le_refl _)).below hSA.2.2.2 (Nat.le_refl _)).take z)
                  have Hlz : Hid ((P.take z).length = z) := by show _ = _; rw [List.length_take, Hq.out]; omega
                  clear hSA hS0 hi5 hbA k0 k1 hcy
                  go_wp2_with fail
                  go_loopw [12] (fun i W => ∃ t : Nat, t ≤ s ∧ i = .int .i64 t ∧ Drawn wA W) (fun i _ => s - (intOf i).toNat)
                  case atStart => exact ⟨0, Nat.zero_le _, rfl, .refl _⟩
                  case round =>
                    obtain ⟨t, ht, rfl, hdr⟩ := hrel
                    have HdrA := Lib.hid hdr
                    clear hdr
                    by_cases hlt4 : t < s
                    · obtain ⟨sb, so, hsb, hsc⟩ := (Hi5.out.drawn HdrA.out) (by rw [Hs.out]; omega)
                      cases hsb
                      have hct := hsc t (by rw [Hs.out]; exact hlt4)
                      have hmt := Hdy.out (S.getD t 0) (mem_getD S t (by rw [Hs.out]; exact hlt4))
                      obtain ⟨g, hg⟩ : ∃ g, S.getD t 0 = g := ⟨_, rfl⟩
                      rw [hg] at hct hmt
                      have Hmt := Lib.hid hmt
                      have ht1 : (0 : Int) ≤ (t : Int) := by omega
                      have ht2 : (t : Int) < (s : Int) := by omega
                      clear hsc hg hmt
                      go_wp2
                      go_quiet ((go_at_call 25; with_reducible exact Calls.quiet_of_same (in_at _ z j1 (P.take z) g true Hmt.out Hlz.out _ hzm ((Hi6.out.drawn HdrA.out).drewN _))))
                      go_wp2
                      go_roundw
                      case rel => exact ⟨t + 1, by omega, by go_num, HdrA.out.step _⟩
                      case measure => simp [intOf]; omega
                    · have HbB := Lib.hid (Hbz.out.trans ((HbA.out.trans (HdrA.out.below _)).mono hsz5))
                      go_wp2
                      go_roundw
                      case rel => exact ⟨z + 1, by omega, by go_num, HbB.out⟩
                      case measure => simp [intOf]; omega
                · go_wp2_with (go_at_call 10; refine (awake_any _).mono ?_; rintro e wA ⟨rfl, hbA⟩)
                  go_ret
                  exact ⟨rfl, Hb.out.trans (hbA.mono Hb.out.size)⟩
end Go.Proofs.Ythgnbpiemkcdhaa
