/-
  Finer, and the law PartitionFiner: Finer holds exactly if members that are together in the first partition are together in the second one.
-/
import Derived.Test.YtahfpkojkcnhiaaPAwake
namespace Go.Proofs.Ytahfpkojkcnhiaa
open Go.RowKit
set_option linter.unusedVariables false

def allFin (za zb : List Int) : Bool := (List.range za.length).all fun i => decide (zb.getD i 0 = zb.getD (za.getD i 0).toNat 0)
/-- Finer, as the definition has it. -/
def finB (za zb : List Int) : Bool := decide (za.length = zb.length) && (decide (chk za = 0) && (decide (chk zb = 0) && allFin za zb))

theorem allFin_iff {za zb : List Int} : allFin za zb = true ↔ ∀ i, i < za.length → zb.getD i 0 = zb.getD (za.getD i 0).toNat 0 := by
  unfold allFin
  rw [List.all_eq_true]
  constructor
  · intro h i hi
    exact of_decide_eq_true (h i (List.mem_range.2 hi))
  · intro h i hi
    exact decide_eq_true (h i (List.mem_range.1 hi))
theorem allFin_not {za zb : List Int} {i : Nat} (hi : i < za.length) (h : zb.getD i 0 ≠ zb.getD (za.getD i 0).toNat 0) : allFin za zb = false := by
  rw [← Bool.not_eq_true, allFin_iff]
  exact fun h2 => h (h2 i hi)

set_option maxHeartbeats 800000 in
theorem finer_any (a : Option Addr) (c : Nat) (za : List Int) (b : Option Addr) (d : Nat) (zb : List Int) (w : World) (hn : za.length ≤ maxLen) (hz : Ints w a za) (hm : zb.length ≤ maxLen) (hzb : Ints w b zb) :
    Calls Try.prog 23 #[.slice a za.length c, .slice b zb.length d] w fun e w' => e = .returned (.bool (finB za zb)) ∧ Drawn w w' := by
  have hn' := hn
  have hm' := hm
  unfold maxLen at hn' hm'
  have Hz := Lib.hid hz
  have Hzb := Lib.hid hzb
  clear hz hzb
  by_cases h1 : za.length = zb.length
  · have t1 : ((za.length : Int) != (zb.length : Int)) = false := by simp [h1]
    have H1 := Lib.hid h1
    clear h1
    by_cases h2 : chk za = 0
    · have t2 : (chk za != 0) = false := by simp [h2]
      by_cases h3 : chk zb = 0
      · have t3 : (chk zb != 0) = false := by simp [h3]
        have Hf := Lib.hid (show finB za zb = allFin za zb by simp [finB, H1.out, h2, h3])
        have va := chk_valid h2
        clear h2 h3
        go_enter Try.func23, Try.ntmps23
        go_wp2_with fail
        refine (check_any a c za w hn Hz.out).mono ?_
        rintro e w1 ⟨rfl, rfl⟩
        go_wp2_with fail
        refine (check_any b d zb w hm Hzb.out).mono ?_
        rintro e w1 ⟨rfl, rfl⟩
        have va1 := Lib.hid va.lo
        have va2 := Lib.hid va.hi
        clear va
        go_wp2_with fail
        go_loopw [5, 6, 24] (fun _ _ i wr => ∃ k : Nat, k ≤ za.length ∧ i = .int .i64 k ∧ (∀ j, j < k → zb.getD j 0 = zb.getD (za.getD j 0).toNat 0) ∧ Drawn w wr) (fun _ _ i _ => za.length - (intOf i).toNat)
        case atStart => exact ⟨0, Nat.zero_le _, rfl, fun j hj => absurd hj (by omega), .refl _⟩
        case round =>
          obtain ⟨k, hk, rfl, hall, nw, rfl⟩ := hrel
          have Hall := Lib.hid hall
          clear hall
          by_cases hlt : k < za.length
          · obtain ⟨ba, oa, rfl, hca⟩ := Hz.out (by omega)
            obtain ⟨bb, ob, rfl, hcb⟩ := Hzb.out (by rw [← H1.out]; omega)
            have c1 := hca k hlt
            have c2 := hcb k (by rw [← H1.out]; omega)
            have b1 := va1.out k hlt
            have b2 := va2.out k hlt
            obtain ⟨y, hy⟩ : ∃ y : Nat, za.getD k 0 = y := ⟨(za.getD k 0).toNat, by omega⟩
            have Hno := Lib.hid (fun h => allFin_not (za := za) (zb := zb) hlt h)
            rw [hy] at b1 b2 c1
            have c3 := hcb y (by rw [← H1.out]; omega)
            have hl2 : y < zb.length := by rw [← H1.out]; omega
            have hl3 : k < zb.length := by rw [← H1.out]; omega
            have Hy := Lib.hid hy
            obtain ⟨p, hp⟩ : ∃ p, zb.getD k 0 = p := ⟨_, rfl⟩
            obtain ⟨q, hq⟩ : ∃ q, zb.getD y 0 = q := ⟨_, rfl⟩
            rw [hp] at c2
            rw [hq] at c3
            have Hp := Lib.hid hp
            have Hq := Lib.hid hq
            clear hca hcb hy hp hq
            by_cases hpq : p = q
            · have t4 : (p != q) = false := by simp [hpq]
              have Hpq := Lib.hid hpq
              clear hpq
              go_wp2
              go_quiet (fail)
              go_wp2
              go_roundw
              case rel =>
                refine ⟨k + 1, by omega, by go_num, fun j hj => ?_, ⟨_, rfl⟩⟩
                by_cases e : j = k
                · rw [e, Hy.out, Int.toNat_natCast, Hp.out, Hq.out]; exact Hpq.out
                · exact Hall.out j (by omega)
              case measure => simp [intOf]; omega
            · have t4 : (p != q) = true := by simp [hpq]
              have Hf2 := Lib.hid (show finB za zb = false by rw [Hf.out]; exact Hno.out (by rw [Hy.out, Int.toNat_natCast, Hp.out, Hq.out]; exact hpq))
              go_wp2
              go_quiet (fail)
              go_wp2
              go_ret
              exact ⟨ret_bool Hf2.out.symm, ((Drawn.refl _).step _).step _⟩
          · have Hf2 := Lib.hid (show finB za zb = true by rw [Hf.out]; exact allFin_iff.2 fun i hi => Hall.out i (by omega))
            go_wp2
            go_ret
            exact ⟨ret_bool Hf2.out.symm, nw, rfl⟩
      · have t3 : (chk zb != 0) = true := by simp [h3]
        have Hf := Lib.hid (show finB za zb = false by simp only [finB, decide_eq_false h3, Bool.false_and, Bool.and_false])
        clear h2 h3
        go_enter Try.func23, Try.ntmps23
        go_wp2_with fail
        refine (check_any a c za w hn Hz.out).mono ?_
        rintro e w1 ⟨rfl, rfl⟩
        go_wp2_with fail
        refine (check_any b d zb w hm Hzb.out).mono ?_
        rintro e w1 ⟨rfl, rfl⟩
        go_wp2_with fail
        go_ret
        exact ⟨ret_bool Hf.out.symm, .refl _⟩
    · have t2 : (chk za != 0) = true := by simp [h2]
      have Hf := Lib.hid (show finB za zb = false by simp only [finB, decide_eq_false h2, Bool.false_and, Bool.and_false])
      clear h2
      go_enter Try.func23, Try.ntmps23
      go_wp2_with fail
      refine (check_any a c za w hn Hz.out).mono ?_
      rintro e w1 ⟨rfl, rfl⟩
      go_wp2_with fail
      go_ret
      exact ⟨ret_bool Hf.out.symm, .refl _⟩
  · have t1 : ((za.length : Int) != (zb.length : Int)) = true := by rw [bne_iff_ne]; omega
    have Hf := Lib.hid (show finB za zb = false by simp only [finB, decide_eq_false h1, Bool.false_and])
    clear h1
    go_enter Try.func23, Try.ntmps23
    go_wp2_with fail
    go_ret
    exact ⟨ret_bool Hf.out.symm, .refl _⟩
theorem allFin_pair {za zb : List Int} (hv : Valid za) {x y : Nat} (hx : x < za.length) (hy : y < za.length) (h1 : za.getD x 0 = za.getD y 0) (h2 : zb.getD x 0 ≠ zb.getD y 0) : allFin za zb = false := by
  rw [← Bool.not_eq_true, allFin_iff]
  intro h
  apply h2
  rw [h x hx, h y hy, h1]
theorem allFin_all {za zb : List Int} (hv : Valid za) (h : ∀ x, x < za.length → ∀ y, y < za.length → za.getD x 0 = za.getD y 0 → zb.getD x 0 = zb.getD y 0) : allFin za zb = true := by
  rw [allFin_iff]
  intro i hi
  have h1 := hv.lo i hi
  have h2 := hv.hi i hi
  exact h i hi _ (by omega) (hv.fix i hi).symm

/-- Together in the first, then together in the second. -/
def Tog (za zb : List Int) (x y : Nat) : Prop := za.getD x 0 = za.getD y 0 → zb.getD x 0 = zb.getD y 0
def TogTo (za zb : List Int) (x y : Nat) : Prop := ∀ j, j < y → Tog za zb x j
def TogAll (za zb : List Int) (x : Nat) : Prop := ∀ i, i < x → TogTo za zb i za.length
theorem TogTo.succ {za zb : List Int} {x y : Nat} (h : TogTo za zb x y) (h2 : Tog za zb x y) : TogTo za zb x (y + 1) := fun j hj => by
  by_cases e : j = y
  · subst e; exact h2
  · exact h j (by omega)
theorem TogAll.succ {za zb : List Int} {x : Nat} (h : TogAll za zb x) (h2 : TogTo za zb x za.length) : TogAll za zb (x + 1) := fun j hj => by
  by_cases e : j = x
  · subst e; exact h2
  · exact h j (by omega)

set_option maxHeartbeats 1600000 in
theorem finerLaw_any (a : Option Addr) (c : Nat) (za : List Int) (b : Option Addr) (d : Nat) (zb : List Int) (w : World) (hn : za.length ≤ maxLen) (hz : Ints w a za) (hm : zb.length ≤ maxLen) (hzb : Ints w b zb) :
    Calls Try.prog 8 #[.slice a za.length c, .slice b zb.length d] w fun e w' => e = .returned (.bool true) ∧ Below w.heap.size w w' := by
  have hn' := hn
  have hm' := hm
  unfold maxLen at hn' hm'
  have Hz := Lib.hid hz
  have Hzb := Lib.hid hzb
  clear hz hzb
  by_cases hbig : 60 < za.length ∨ 60 < zb.length
  · by_cases hb1 : 60 < za.length
    · clear hbig
      go_enter Try.func8, Try.ntmps8
      go_wp2_with (go_at_call 11; refine (awake_any _).mono ?_; rintro e w' ⟨rfl, hb⟩)
      go_ret
      exact ⟨rfl, hb⟩
    · have hb2 : 60 < zb.length := by omega
      clear hbig
      go_enter Try.func8, Try.ntmps8
      go_wp2_with (go_at_call 11; refine (awake_any _).mono ?_; rintro e w' ⟨rfl, hb⟩)
      go_ret
      exact ⟨rfl, hb⟩
  · have hb1 : za.length ≤ 60 := by omega
    have hb2 : zb.length ≤ 60 := by omega
    clear hbig
    by_cases h1 : chk za = 0
    · have t1 : (chk za == 0) = true := by simp [h1]
      by_cases h2 : chk zb = 0
      · have t2 : (chk zb == 0) = true := by simp [h2]
        by_cases h3 : za.length = zb.length
        · have t3 : ((za.length : Int) == (zb.length : Int)) = true := by simp [h3]
          have Hf := Lib.hid (show finB za zb = allFin za zb by simp [finB, h1, h2, h3])
          have Hv := Lib.hid (chk_valid h1)
          have H3 := Lib.hid h3
          clear h1 h2 h3
          go_enter Try.func8, Try.ntmps8
          go_wp2_with fail
          refine (rcheck_any a c za w hn Hz.out).mono ?_
          rintro e w1 ⟨rfl, n1, rfl⟩
          go_wp2_with fail
          refine (rcheck_any b d zb (w.drewN n1) hm (Hzb.out.drewN _)).mono ?_
          rintro e w1 ⟨rfl, n2, rfl⟩
          go_wp2_with fail
          go_loopw [5, 6] (fun s i wr => ∃ (x : Nat) (bs : Bool), x ≤ za.length ∧ s = .bool bs ∧ i = .int .i64 x ∧ (bs = true → TogAll za zb x) ∧ (bs = false → allFin za zb = false) ∧ Drawn w wr) (fun _ i _ => za.length - (intOf i).toNat)
          case atStart => exact ⟨0, true, Nat.zero_le _, rfl, rfl, fun _ i hi => absurd hi (by omega), (fun h => by cases h), ⟨_, rfl⟩⟩
          case round =>
            obtain ⟨x, bs, hx, rfl, rfl, hyes, hno, nw, rfl⟩ := hrel
            by_cases hlt : x < za.length
            · cases bs with
              | true =>
                have Hyes := Lib.hid (hyes rfl)
                clear hyes hno
                go_wp2
                go_loopw [5, 7] (fun s j wx => ∃ (y : Nat) (bs : Bool), y ≤ za.length ∧ s = .bool bs ∧ j = .int .i64 y ∧ (bs = true → TogTo za zb x y) ∧ (bs = false → allFin za zb = false) ∧ Drawn w wx) (fun _ j _ => za.length - (intOf j).toNat)
                case atStart => exact ⟨0, true, Nat.zero_le _, rfl, rfl, fun _ i hi => absurd hi (by omega), (fun h => by cases h), ⟨_, rfl⟩⟩
                case round =>
                  obtain ⟨y, bs, hy, rfl, rfl, hyes2, hno2, nx, rfl⟩ := hrel
                  by_cases hly : y < za.length
                  · cases bs with
                    | true =>
                      have Hyes2 := Lib.hid (hyes2 rfl)
                      clear hyes2 hno2
                      obtain ⟨ba, oa, rfl, hca⟩ := Hz.out (by omega)
                      obtain ⟨bb, ob, rfl, hcb⟩ := Hzb.out (by rw [← H3.out]; omega)
                      have c1 := hca x hlt
                      have c2 := hca y hly
                      have c3 := hcb x (by rw [← H3.out]; omega)
                      have c4 := hcb y (by rw [← H3.out]; omega)
                      have l1 : x < zb.length := by rw [← H3.out]; omega
                      have l2 : y < zb.length := by rw [← H3.out]; omega
                      clear hca hcb
                      obtain ⟨p, hp⟩ : ∃ p, za.getD x 0 = p := ⟨_, rfl⟩
                      obtain ⟨q, hq⟩ : ∃ q, za.getD y 0 = q := ⟨_, rfl⟩
                      obtain ⟨r, hr⟩ : ∃ r, zb.getD x 0 = r := ⟨_, rfl⟩
                      obtain ⟨s, hs⟩ : ∃ s, zb.getD y 0 = s := ⟨_, rfl⟩
                      rw [hp] at c1
                      rw [hq] at c2
                      rw [hr] at c3
                      rw [hs] at c4
                      have Htog := Lib.hid (show Tog za zb x y ↔ (p = q → r = s) by unfold Tog; rw [hp, hq, hr, hs])
                      have Hbad := Lib.hid (fun h1 h2 => allFin_pair (zb := zb) Hv.out hlt hly h1 h2)
                      have Hpq := Lib.hid hp
                      have Hqq := Lib.hid hq
                      have Hrq := Lib.hid hr
                      have Hsq := Lib.hid hs
                      clear hp hq hr hs
                      by_cases e1 : p = q
                      · have t4 : (p != q) = false := by simp [e1]
                        have E1 := Lib.hid e1
                        clear e1
                        by_cases e2 : r = s
                        · have t5 : (r == s) = true := by simp [e2]
                          have E2 := Lib.hid e2
                          clear e2
                          go_wp2
                          go_quiet (fail)
                          go_wp2
                          go_roundw
                          case rel => exact ⟨y + 1, true, by omega, rfl, by go_num, fun _ => Hyes2.out.succ (Htog.out.2 fun _ => E2.out), (fun h => by cases h), ⟨_, rfl⟩⟩
                          case measure => simp [intOf]; omega
                        · have t5 : (r == s) = false := by simp [e2]
                          have E2 := Lib.hid e2
                          clear e2
                          go_wp2
                          go_quiet (fail)
                          go_wp2
                          go_roundw
                          case rel => exact ⟨y + 1, false, by omega, rfl, by go_num, (fun h => by cases h), fun _ => Hbad.out (by rw [Hpq.out, Hqq.out]; exact E1.out) (by rw [Hrq.out, Hsq.out]; exact E2.out), ⟨_, rfl⟩⟩
                          case measure => simp [intOf]; omega
                      · have t4 : (p != q) = true := by simp [e1]
                        have E1 := Lib.hid e1
                        clear e1
                        go_wp2
                        go_quiet (fail)
                        go_wp2
                        go_roundw
                        case rel => exact ⟨y + 1, true, by omega, rfl, by go_num, fun _ => Hyes2.out.succ (Htog.out.2 fun e => absurd e E1.out), (fun h => by cases h), ⟨_, rfl⟩⟩
                        case measure => simp [intOf]; omega
                    | false =>
                      have Hno2 := Lib.hid (hno2 rfl)
                      clear hyes2 hno2
                      go_wp2
                      go_roundw
                      case rel => exact ⟨x + 1, false, by omega, rfl, by go_num, (fun h => by cases h), fun _ => Hno2.out, ⟨_, rfl⟩⟩
                      case measure => simp [intOf]; omega
                  · have ey : y = za.length := by omega
                    cases bs with
                    | true =>
                      have Hyes2 := Lib.hid (show TogTo za zb x za.length by rw [← ey]; exact hyes2 rfl)
                      clear hyes2 hno2 ey
                      go_wp2
                      go_roundw
                      case rel => exact ⟨x + 1, true, by omega, rfl, by go_num, fun _ => Hyes.out.succ Hyes2.out, (fun h => by cases h), ⟨_, rfl⟩⟩
                      case measure => simp [intOf]; omega
                    | false =>
                      have Hno2 := Lib.hid (hno2 rfl)
                      clear hyes2 hno2 ey
                      go_wp2
                      go_roundw
                      case rel => exact ⟨x + 1, false, by omega, rfl, by go_num, (fun h => by cases h), fun _ => Hno2.out, ⟨_, rfl⟩⟩
                      case measure => simp [intOf]; omega
              | false =>
                have Hfin : finB za zb = false := by rw [Hf.out]; exact hno rfl
                clear hyes hno
                go_wp2_with (first | (go_at_call 23; refine (finer_any a c za b d zb _ hn (Hz.out.drewN _) hm (Hzb.out.drewN _)).mono ?_; rintro e w' ⟨rfl, n3, rfl⟩) | (go_at_call 11; refine (awake_any _).mono ?_; rintro e w' ⟨rfl, hb⟩))
                go_ret
                exact ⟨rfl, (Drawn.below ⟨_, rfl⟩ _).trans hb⟩
            · have ex : x = za.length := by omega
              cases bs with
              | true =>
                have Hfin : finB za zb = true := by
                  rw [Hf.out]
                  refine allFin_all Hv.out fun i hi j hj => ?_
                  exact hyes rfl i (by omega) j hj
                clear hyes hno ex
                go_wp2_with (first | (go_at_call 23; refine (finer_any a c za b d zb _ hn (Hz.out.drewN _) hm (Hzb.out.drewN _)).mono ?_; rintro e w' ⟨rfl, n3, rfl⟩) | (go_at_call 11; refine (awake_any _).mono ?_; rintro e w' ⟨rfl, hb⟩))
                go_ret
                exact ⟨rfl, (Drawn.below ⟨_, rfl⟩ _).trans hb⟩
              | false =>
                have Hfin : finB za zb = false := by rw [Hf.out]; exact hno rfl
                clear hyes hno ex
                go_wp2_with (first | (go_at_call 23; refine (finer_any a c za b d zb _ hn (Hz.out.drewN _) hm (Hzb.out.drewN _)).mono ?_; rintro e w' ⟨rfl, n3, rfl⟩) | (go_at_call 11; refine (awake_any _).mono ?_; rintro e w' ⟨rfl, hb⟩))
                go_ret
                exact ⟨rfl, (Drawn.below ⟨_, rfl⟩ _).trans hb⟩
        · have t3 : ((za.length : Int) == (zb.length : Int)) = false := by rw [beq_eq_false_iff_ne]; omega
          have Hfin : finB za zb = false := by simp only [finB, decide_eq_false h3, Bool.false_and]
          clear h1 h2 h3
          go_enter Try.func8, Try.ntmps8
          go_wp2_with fail
          refine (rcheck_any a c za w hn Hz.out).mono ?_
          rintro e w1 ⟨rfl, n1, rfl⟩
          go_wp2_with fail
          refine (rcheck_any b d zb (w.drewN n1) hm (Hzb.out.drewN _)).mono ?_
          rintro e w1 ⟨rfl, n2, rfl⟩
          go_wp2_with fail
          refine wp_loop_rounds 1 ?_
          rw [rounds_succ]
          go_wp2_with (first | (go_at_call 23; refine (finer_any a c za b d zb _ hn (Hz.out.drewN _) hm (Hzb.out.drewN _)).mono ?_; rintro e w' ⟨rfl, n3, rfl⟩) | (go_at_call 11; refine (awake_any _).mono ?_; rintro e w' ⟨rfl, hb⟩))
          all_goals
            go_ret
            exact ⟨rfl, (Drawn.below ⟨_, rfl⟩ _).trans hb⟩
      · have t2 : (chk zb == 0) = false := by simp [h2]
        have Hfin : finB za zb = false := by simp only [finB, decide_eq_false h2, Bool.false_and, Bool.and_false]
        clear h1 h2
        go_enter Try.func8, Try.ntmps8
        go_wp2_with fail
        refine (rcheck_any a c za w hn Hz.out).mono ?_
        rintro e w1 ⟨rfl, n1, rfl⟩
        go_wp2_with fail
        refine (rcheck_any b d zb (w.drewN n1) hm (Hzb.out.drewN _)).mono ?_
        rintro e w1 ⟨rfl, n2, rfl⟩
        go_wp2_with fail
        refine wp_loop_rounds 1 ?_
        rw [rounds_succ]
        go_wp2_with (first | (go_at_call 23; refine (finer_any a c za b d zb _ hn (Hz.out.drewN _) hm (Hzb.out.drewN _)).mono ?_; rintro e w' ⟨rfl, n3, rfl⟩) | (go_at_call 11; refine (awake_any _).mono ?_; rintro e w' ⟨rfl, hb⟩))
        all_goals
          go_ret
          exact ⟨rfl, (Drawn.below ⟨_, rfl⟩ _).trans hb⟩
    · have t1 : (chk za == 0) = false := by simp [h1]
      have Hfin : finB za zb = false := by simp only [finB, decide_eq_false h1, Bool.false_and, Bool.and_false]
      clear h1
      go_enter Try.func8, Try.ntmps8
      go_wp2_with fail
      refine (rcheck_any a c za w hn Hz.out).mono ?_
      rintro e w1 ⟨rfl, n1, rfl⟩
      go_wp2_with fail
      refine wp_loop_rounds 1 ?_
      rw [rounds_succ]
      go_wp2_with (first | (go_at_call 23; refine (finer_any a c za b d zb _ hn (Hz.out.drewN _) hm (Hzb.out.drewN _)).mono ?_; rintro e w' ⟨rfl, n3, rfl⟩) | (go_at_call 11; refine (awake_any _).mono ?_; rintro e w' ⟨rfl, hb⟩))
      all_goals
        go_ret
        exact ⟨rfl, (Drawn.below ⟨_, rfl⟩ _).trans hb⟩
end Go.Proofs.Ytahfpkojkcnhiaa
