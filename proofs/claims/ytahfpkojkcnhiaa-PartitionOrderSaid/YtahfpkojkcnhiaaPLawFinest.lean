/-
  PartitionFinest: the walk of the law. Of is finer than every other partition in which the ends of each pair are together, and valid.
-/
import Derived.Test.YtahfpkojkcnhiaaPLawOf
import Derived.Test.YtahfpkojkcnhiaaPFiner
namespace Go.Proofs.Ytahfpkojkcnhiaa
open Go.RowKit
set_option linter.unusedVariables false

/-- The classes of p are within those of q. -/
def Fin (p q : List Int) : Prop := p.length = q.length ∧ ∀ i, i < q.length → q.getD (p.getD i 0).toNat 0 = q.getD i 0
/-- The ends of all pairs are together in q. -/
def Sat (q : List Int) (ps : List (Int × Int)) : Prop := ∀ k, k < ps.length → sameB q (ps.getD k (0, 0)).1 (ps.getD k (0, 0)).2 = true

theorem same_facts {q : List Int} {x y : Int} (h : sameB q x y = true) : isB q.length x = true ∧ isB q.length y = true ∧ q.getD x.toNat 0 = q.getD y.toNat 0 := by
  simp only [sameB, Bool.and_eq_true, decide_eq_true_eq] at h
  exact ⟨h.2.1, h.2.2.1, h.2.2.2⟩
theorem Sat.mem {q : List Int} {ps : List (Int × Int)} (h : Sat q ps) {e : Int × Int} (he : e ∈ ps) : sameB q e.1 e.2 = true := by
  obtain ⟨k, hk, rfl⟩ := List.mem_iff_getElem.1 he
  have := h k hk
  simpa [hk] using this
theorem Sat.inB {q : List Int} {ps : List (Int × Int)} (h : Sat q ps) : inB q.length ps = true := by
  unfold Proofs.Ytahfpkojkcnhiaa.inB
  rw [List.all_eq_true]
  intro e he
  have := same_facts (h.mem he)
  rw [this.1, this.2.1]; rfl

theorem Fin.join {p q : List Int} (h : Fin p q) (hf : Flat p) (x y : Nat) (hx : x < q.length) (hy : y < q.length) (hxy : q.getD x 0 = q.getD y 0) : Fin (joinL p x y) q := by
  obtain ⟨hl, h1⟩ := h
  refine ⟨by rw [length_joinL, hl], fun i hi => ?_⟩
  rw [getD_joinL _ _ _ _ (by omega)]
  have hx' := h1 x hx
  have hy' := h1 y hy
  have hi' := h1 i hi
  split
  · rename_i e
    rw [e] at hi'
    rcases Int.le_total (p.getD x 0) (p.getD y 0) with c | c
    · rw [Int.max_eq_right c] at hi'
      rw [Int.min_eq_left c, hx', hxy, ← hy', hi']
    · rw [Int.max_eq_left c] at hi'
      rw [Int.min_eq_right c, hy', ← hxy, ← hx', hi']
  · exact hi'

theorem Fin.joinAll {q : List Int} {ps : List (Int × Int)} (hs : ∀ e ∈ ps, sameB q e.1 e.2 = true) : ∀ {p : List Int}, Fin p q → Flat p → Fin (joinAll p ps) q := by
  induction ps with
  | nil => intro p h _; exact h
  | cons e r ih =>
    intro p h hf
    have f := same_facts (hs e (by simp))
    have i1 := isB_iff.1 f.1
    have i2 := isB_iff.1 f.2.1
    exact ih (fun e he => hs e (by simp [he])) (h.join hf _ _ (by omega) (by omega) f.2.2) (hf.join _ _ (by have := h.1; omega) (by have := h.1; omega))

theorem joinL_keeps (q : List Int) (x y i j : Nat) (hi : i < q.length) (hj : j < q.length) (h : q.getD i 0 = q.getD j 0) : (joinL q x y).getD i 0 = (joinL q x y).getD j 0 := by
  rw [getD_joinL _ _ _ _ hi, getD_joinL _ _ _ _ hj, h]
theorem joinL_joins (q : List Int) (x y : Nat) (hx : x < q.length) (hy : y < q.length) : (joinL q x y).getD x 0 = (joinL q x y).getD y 0 := by
  rw [getD_joinL _ _ _ _ hx, getD_joinL _ _ _ _ hy]
  rcases Int.lt_trichotomy (q.getD x 0) (q.getD y 0) with c | c | c
  · rw [if_neg (by omega), if_pos (by omega)]; omega
  · rw [c]
  · rw [if_pos (by omega), if_neg (by omega)]; omega
theorem joinAll_keeps (ps : List (Int × Int)) : ∀ (q : List Int) (i j : Nat), i < q.length → j < q.length → q.getD i 0 = q.getD j 0 → (joinAll q ps).getD i 0 = (joinAll q ps).getD j 0 := by
  induction ps with
  | nil => intro q i j _ _ h; exact h
  | cons e r ih =>
    intro q i j hi hj h
    exact ih _ i j (by rw [length_joinL]; exact hi) (by rw [length_joinL]; exact hj) (joinL_keeps q _ _ i j hi hj h)
theorem joinAll_joins (n : Nat) (ps : List (Int × Int)) (hin : inB n ps = true) : ∀ (q : List Int), q.length = n → ∀ e ∈ ps, (joinAll q ps).getD e.1.toNat 0 = (joinAll q ps).getD e.2.toNat 0 := by
  induction ps with
  | nil => intro q _ e he; cases he
  | cons e r ih =>
    intro q hq e' he'
    simp only [inB, List.all_cons, Bool.and_eq_true] at hin
    obtain ⟨⟨h1, h2⟩, h3⟩ := hin
    rw [isB_iff] at h1 h2
    rcases List.mem_cons.1 he' with rfl | hm
    · exact joinAll_keeps r _ _ _ (by rw [length_joinL]; omega) (by rw [length_joinL]; omega) (joinL_joins q _ _ (by omega) (by omega))
    · exact ih h3 _ (by rw [length_joinL, hq]) e' hm

theorem quiet_add_drawn {P : Program} {f : FuncId} {args : Array Value} {w : World} {a n : Nat} {v : Value}
    (h : Calls P f args (w.drewN (a + n)) fun e w' => e = .returned v ∧ Drawn (w.drewN (a + n)) w') : Calls P f args (w.drewN (a + n)) fun e w'' => e = .returned v ∧ ∃ m, w'' = w.drewN (a + m) :=
  h.mono fun _ _ ⟨he, m, hm⟩ => ⟨he, n + m, by rw [hm, World.drewN_drewN, Nat.add_assoc]⟩

/-- What the law asks of the result, all at once. -/
structure Finest (p q : List Int) (ps : List (Int × Int)) : Prop where
  len : p.length = q.length
  ok : chk p = 0
  lo : ∀ i, i < q.length → 0 ≤ p.getD i 0
  hi : ∀ i, i < q.length → p.getD i 0 ≤ i
  fin : ∀ i, i < q.length → q.getD (p.getD i 0).toNat 0 = q.getD i 0
  finer : finB p q = true
  sat : Sat p ps

theorem finest {q : List Int} {ps : List (Int × Int)} (hq : chk q = 0) (hs : Sat q ps) : Finest (joinAll (iota q.length) ps) q ps := by
  have hv := chk_valid hq
  have hf0 : Fin (iota q.length) q := ⟨length_iota _, fun i hi => by rw [getD_iota _ _ hi, Int.toNat_natCast]⟩
  have hf := Fin.joinAll (fun e he => hs.mem he) hf0 (flat_iota _)
  have hflat := Flat.joinAll hs.inB (flat_iota q.length) (length_iota _)
  have hl : (joinAll (iota q.length) ps).length = q.length := by rw [length_joinAll, length_iota]
  have hok : chk (joinAll (iota q.length) ps) = 0 := chk_of ⟨by rw [hl]; exact hv.short, hflat.lo, hflat.hi, hflat.fix⟩
  refine ⟨hl, hok, fun i hi => hflat.lo i (by omega), fun i hi => hflat.hi i (by omega), hf.2, ?_, ?_⟩
  · simp only [finB, hl, hok, hq, decide_true, Bool.true_and]
    rw [allFin_iff]
    intro i hi
    exact (hf.2 i (by omega)).symm
  · intro k hk
    have hm : ps.getD k (0, 0) ∈ ps := by simp [hk]
    have hin := hs.inB
    unfold Proofs.Ytahfpkojkcnhiaa.inB at hin
    rw [List.all_eq_true] at hin
    have hb := hin _ hm
    simp only [Bool.and_eq_true] at hb
    have hj := joinAll_joins q.length ps hs.inB (iota q.length) (length_iota _) _ hm
    simp only [sameB, hok, hl, hb.1, hb.2, hj, decide_true, Bool.true_and]

set_option maxHeartbeats 1600000 in
theorem finest_any (a : Option Addr) (c : Nat) (ps : List (Int × Int)) (b : Option Addr) (d : Nat) (q : List Int) (w : World) (hps : ps.length ≤ maxLen) (hp : PairsIn w.heap.size w a ps) (hm : q.length ≤ maxLen) (hq : Ints w b q) :
    Calls Try.prog 5 #[.slice a ps.length c, .slice b q.length d] w fun e w' => e = .returned (.bool true) ∧ Below w.heap.size w w' := by
  have hps' := hps
  have hm' := hm
  unfold maxLen at hps' hm'
  have Hp := Lib.hid hp
  have Hq := Lib.hid hq
  clear hp hq
  by_cases hb1 : 300 < ps.length
  · go_enter Try.func5, Try.ntmps5
    go_wp2_with (go_at_call 11; refine (awake_any _).mono ?_; rintro e w' ⟨rfl, hb⟩)
    go_ret
    exact ⟨rfl, hb⟩
  · by_cases hb2 : 300 < q.length
    · go_enter Try.func5, Try.ntmps5
      go_wp2_with (go_at_call 11; refine (awake_any _).mono ?_; rintro e w' ⟨rfl, hb⟩)
      go_ret
      exact ⟨rfl, hb⟩
    · by_cases hc : chk q = 0
      · have t0 : (chk q != 0) = false := by simp [hc]
        have Hc := Lib.hid hc
        clear hc
        go_enter Try.func5, Try.ntmps5
        go_wp2_with fail
        refine (rcheck_any b d q w hm Hq.out).mono ?_
        rintro e w1 ⟨rfl, n1, rfl⟩
        go_wp2_with fail
        go_loopw [5] (fun i wr => ∃ k : Nat, k ≤ ps.length ∧ i = .int .i64 k ∧ (∀ j, j < k → sameB q (ps.getD j (0, 0)).1 (ps.getD j (0, 0)).2 = true) ∧ Drawn w wr) (fun i _ => ps.length - (intOf i).toNat)
        case atStart => exact ⟨0, Nat.zero_le _, rfl, fun j hj => absurd hj (by omega), ⟨_, rfl⟩⟩
        case round =>
          obtain ⟨k, hk, rfl, hall, nw, rfl⟩ := hrel
          have Hall := Lib.hid hall
          clear hall
          by_cases hlt : k < ps.length
          · obtain ⟨bp, op, rfl, _, hcp⟩ := Hp.out (by omega)
            have e1 := (hcp k hlt).1
            have e2 := (hcp k hlt).2
            have Hlast := Lib.hid (rfl : (ps.getD k (0, 0)) = ps.getD k (0, 0))
            obtain ⟨x, hx⟩ : ∃ x, (ps.getD k (0, 0)).1 = x := ⟨_, rfl⟩
            obtain ⟨y, hy⟩ : ∃ y, (ps.getD k (0, 0)).2 = y := ⟨_, rfl⟩
            rw [hx] at e1
            rw [hy] at e2
            have Hx := Lib.hid hx
            have Hy := Lib.hid hy
            clear hcp hx hy
            by_cases hs : sameB q x y = true
            · have Hs := Lib.hid hs
              go_wp2
              go_quiet ((go_at_call 14; exact quiet_add_drawn (rsame_any b d q x y _ hm (Hq.out.drewN _))))
              go_wp2
              go_roundw
              case rel =>
                refine ⟨k + 1, by omega, by go_num, fun j hj => ?_, ⟨_, rfl⟩⟩
                by_cases e : j = k
                · rw [e, Hx.out, Hy.out]; exact Hs.out
                · exact Hall.out j (by omega)
              case measure => simp [intOf]; omega
            · simp only [Bool.not_eq_true] at hs
              go_wp2
              go_quiet ((go_at_call 14; exact quiet_add_drawn (rsame_any b d q x y _ hm (Hq.out.drewN _))))
              go_wp2_with (go_at_call 11; refine (awake_any _).mono ?_; rintro e w' ⟨rfl, hb⟩)
              go_ret
              exact ⟨rfl, (Drawn.below ⟨_, rfl⟩ _).trans hb⟩
          · have Hf := Lib.hid (finest Hc.out (fun j hj => Hall.out j (by omega) : Sat q ps))
            have Hof := Lib.hid (show ofS (q.length : Int) ps = (joinAll (iota q.length) ps, 0) from
              ofS_good q.length ps (chk_valid Hc.out).short (Sat.inB (fun j hj => Hall.out j (by omega))))
            have Hall2 := Lib.hid (show Sat q ps from fun j hj => Hall.out j (by omega))
            clear Hall
            obtain ⟨p, hp⟩ : ∃ p, joinAll (iota q.length) ps = p := ⟨_, rfl⟩
            rw [hp] at Hf Hof
            have Hpl := Lib.hid (show p.length ≤ maxLen by rw [Hf.out.len]; exact hm)
            have t1 : ((p.length : Int) != (q.length : Int)) = false := by simp [Hf.out.len]
            have t2 : (chk p != 0) = false := by simp [Hf.out.ok]
            have t3 := Hf.out.finer
            clear hp
            go_wp2_with fail
            refine (of_any q.length a c ps _ hps (Hp.out.below (Drawn.below ⟨nw, rfl⟩ w.heap.size) (Nat.le_refl _) (Nat.le_refl _))).mono ?_
            rw [Hof.out]
            rintro e w2 ⟨v2, rfl, ho2, hb2⟩
            obtain ⟨a2, c2, rfl, hi2⟩ := ho2.shape
            have Hi2 := Lib.hid hi2
            have Hb2 := Lib.hid ((Drawn.below ⟨_, rfl⟩ _).trans hb2 : Below w.heap.size w w2)
            have Hq2 := Lib.hid (Hq.out.below Hb2.out (Nat.le_refl _))
            have Hp2 := Lib.hid (Hp.out.below Hb2.out (Nat.le_refl _) Hb2.out.size)
            clear ho2 hi2 hb2
            go_wp2_with fail
            refine (check_any a2 c2 p w2 Hpl.out Hi2.out).mono ?_
            rintro e w3 ⟨rfl, rfl⟩
            go_wp2_with fail
            refine (finer_any a2 c2 p b d q w2 Hpl.out Hi2.out hm Hq2.out).mono ?_
            rintro e w3 ⟨rfl, n3, rfl⟩
            go_wp2_with fail
            go_loopw [8] (fun i wr => ∃ k : Nat, k ≤ p.length ∧ i = .int .i64 k ∧ Drawn w2 wr) (fun i _ => p.length - (intOf i).toNat)
            case atStart => exact ⟨0, Nat.zero_le _, rfl, ⟨_, rfl⟩⟩
            case round =>
              obtain ⟨k, hk, rfl, nx, rfl⟩ := hrel
              by_cases hlk : k < p.length
              · obtain ⟨bp, op, rfl, hcp⟩ := Hi2.out (by omega)
                obtain ⟨bq, oq, rfl, hcq⟩ := Hq2.out (by rw [← Hf.out.len]; omega)
                have l2 : k < q.length := by rw [← Hf.out.len]; exact hlk
                have g1 := hcp k hlk
                have g2 := hcq k l2
                have b1 := Hf.out.lo k l2
                have b2 := Hf.out.hi k l2
                have Hfin := Lib.hid (Hf.out.fin k l2)
                obtain ⟨y, hy⟩ : ∃ y : Nat, p.getD k 0 = y := ⟨(p.getD k 0).toNat, by omega⟩
                rw [hy] at g1 b1 b2 Hfin
                simp only [Int.toNat_natCast] at Hfin
                have l3 : y < q.length := by omega
                have g3 := hcq y l3
                rw [Hfin.out] at g3
                generalize q.getD k 0 = z at g2 g3
                have t4 : (z != z) = false := by simp
                clear hcp hcq hy Hfin
                go_wp2
                go_quiet (fail)
                go_wp2
                go_roundw
                case rel => exact ⟨k + 1, by omega, by go_num, ⟨_, rfl⟩⟩
                case measure => simp [intOf]; omega
              · go_wp2
                go_loopw [9] (fun i wr => ∃ k : Nat, k ≤ ps.length ∧ i = .int .i64 k ∧ Drawn w2 wr) (fun i _ => ps.length - (intOf i).toNat)
                case atStart => exact ⟨0, Nat.zero_le _, rfl, ⟨_, rfl⟩⟩
                case round =>
                  obtain ⟨m, hmm, rfl, ny, rfl⟩ := hrel
                  by_cases hlm : m < ps.length
                  · obtain ⟨br, or_, rfl, _, hcr⟩ := Hp2.out (by omega)
                    have e1 := (hcr m hlm).1
                    have e2 := (hcr m hlm).2
                    have hs := Hf.out.sat m hlm
                    generalize (ps.getD m (0, 0)).1 = x at *
                    generalize (ps.getD m (0, 0)).2 = y at *
                    clear hcr
                    go_wp2
                    go_quiet ((go_at_call 13; exact quiet_add_drawn (same_any a2 c2 p x y _ Hpl.out (Hi2.out.drewN _))))
                    go_wp2
                    go_roundw
                    case rel => exact ⟨m + 1, by omega, by go_num, ⟨_, rfl⟩⟩
                    case measure => simp [intOf]; omega
                  · go_wp2_with (go_at_call 11; refine (awake_any _).mono ?_; rintro e w' ⟨rfl, hb⟩)
                    go_ret
                    exact ⟨rfl, Hb2.out.trans ((Drawn.below ⟨_, rfl⟩ _).trans (hb.mono Hb2.out.size))⟩
      · have t0 : (chk q != 0) = true := by simp [hc]
        clear hc
        go_enter Try.func5, Try.ntmps5
        go_wp2_with fail
        refine (rcheck_any b d q w hm Hq.out).mono ?_
        rintro e w1 ⟨rfl, n1, rfl⟩
        go_wp2_with (go_at_call 11; refine (awake_any _).mono ?_; rintro e w' ⟨rfl, hb⟩)
        go_ret
        exact ⟨rfl, (Drawn.below ⟨_, rfl⟩ _).trans hb⟩
end Go.Proofs.Ytahfpkojkcnhiaa
