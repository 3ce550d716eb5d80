/-
  GraphReach: the walk of the law. (Written by gen_reach.py.)
-/
import Derived.Test.YthgnbpiemkcdhaaGReachA
namespace Go.Proofs.Ythgnbpiemkcdhaa
open Go.RowKit Go.Shelf Go.WideShapes
set_option linter.unusedVariables false

set_option maxHeartbeats 8000000 in
set_option maxRecDepth 100000 in
theorem reach_walk (N : Int) (a : Option Addr) (c : Nat) (ps : List (Int × Int)) (b : Option Addr) (d : Nat) (zs : List Int) (t : Int) (w : World) (hE : Edg w a c ps) (hps : ps.length ≤ 200) (hN : N ≤ 200) (hzm : zs.length ≤ 20) (hz : Ints w b zs) :
    Calls Try.prog 5 #[.agg #[.int .i64 N, .slice a ps.length c], .slice b zs.length d, .int .i64 t] w fun e w' => e = .returned (.bool true) ∧ Below w.heap.size w w' := by
  obtain ⟨n, hl⟩ : ∃ n, ps.length = n := ⟨_, rfl⟩
  obtain ⟨m, hm⟩ : ∃ m, zs.length = m := ⟨_, rfl⟩
  rw [hl] at hps ⊢
  rw [hm] at hzm ⊢
  have hcap : n ≤ maxLen := by unfold maxLen; omega
  have hmcap : m ≤ maxLen := by unfold maxLen; omega
  obtain ⟨R, hR⟩ : ∃ R, reachN N ps zs = R := ⟨_, rfl⟩
  obtain ⟨r, hr⟩ : ∃ r, R.length = r := ⟨_, rfl⟩
  obtain ⟨ck, hck⟩ : ∃ k, gchk N ps = k := ⟨_, rfl⟩
  have hd1 : decide ((200 : Int) < (n : Int)) = false := by simp; omega
  have hd2 : decide ((200 : Int) < N) = false := by simp; omega
  have hd3 : decide ((20 : Int) < (m : Int)) = false := by simp; omega
  obtain ⟨w0, hw0⟩ : ∃ w0, w.alloc (Obj.cells #[Value.int .i64 N, Value.slice a n c] 24) = w0 := ⟨_, rfl⟩
  have hz0 : w.heap.size < w0.heap.size := by rw [← hw0]; simp
  have q0 : w0.cell? ⟨w.heap.size, 0, none⟩ = some (.int .i64 N) := by rw [← hw0]; simp [go_sem]
  have q1 : w0.cell? ⟨w.heap.size, 1, none⟩ = some (.slice a n c) := by rw [← hw0]; simp [go_sem]
  have HB0 : Hid (Below w.heap.size w w0) := by show Below _ _ _; rw [← hw0]; exact (Below.refl w.heap.size w).alloc (Nat.le_refl _) _
  have HE := Lib.hid hE
  have Hl := Lib.hid hl
  have Hm := Lib.hid hm
  have Hz := Lib.hid hz
  have HR := Lib.hid hR
  have Hr := Lib.hid hr
  have Hck := Lib.hid hck
  have Hw0 := Lib.hid hw0
  clear hE hl hm hz hR hr hck hw0
  go_enter Try.func5, Try.ntmps5
  go_wp2_with fail
  rw [Hw0.out]
  refine (reachN_at N a n c ps b m d zs R r HR.out Hr.out w0 Hl.out Hm.out hmcap (HE.out.below HB0.out (Nat.le_refl _)) (Hz.out.below HB0.out (Nat.le_refl _))).mono ?_
  rintro e w1 ⟨b1, j1, rfl, hi1, hm1, hb1⟩
  have hz1 : w.heap.size < w1.heap.size := by have := hb1.size; omega
  have p0 := (hb1.cell (p := ⟨w.heap.size, 0, none⟩) hz0).trans q0
  have p1 := (hb1.cell (p := ⟨w.heap.size, 1, none⟩) hz0).trans q1
  have HB1 := Lib.hid (HB0.out.trans (hb1.mono (Nat.le_of_lt hz0)))
  have Hi1 := Lib.hid hi1
  clear hb1 q0 q1 hi1
  go_wp2_with fail
  refine (rreachN_at N a n c ps b m d zs R r HR.out Hr.out w1 Hl.out Hm.out hmcap (HE.out.below HB1.out (Nat.le_refl _)) (Hz.out.below HB1.out (Nat.le_refl _))).mono ?_
  rintro e w2 ⟨b2, j2, rfl, hi2, hm2, hb2⟩
  have hz2 : w.heap.size < w2.heap.size := by have := hb2.size; omega
  have x0 := (hb2.cell (p := ⟨w.heap.size, 0, none⟩) hz1).trans p0
  have x1 := (hb2.cell (p := ⟨w.heap.size, 1, none⟩) hz1).trans p1
  have HB2 := Lib.hid (HB1.out.trans (hb2.mono (Nat.le_of_lt hz1)))
  have Hi1' := Lib.hid (Hi1.out.below hb2 (Nat.le_refl _))
  have Hi2 := Lib.hid hi2
  clear hb2 p0 p1 hi2
  go_wp2_with fail
  refine (eq_at r b1 j1 b2 j2 R Hr.out w2 hm1 Hi1'.out Hi2.out).mono ?_
  rintro e w3 ⟨rfl, hd3'⟩
  have hb3 := hd3'.below w2.heap.size
  have hz3 : w.heap.size < w3.heap.size := by have := hb3.size; omega
  have y0 := (hb3.cell (p := ⟨w.heap.size, 0, none⟩) hz2).trans x0
  have y1 := (hb3.cell (p := ⟨w.heap.size, 1, none⟩) hz2).trans x1
  have HB3 := Lib.hid (HB2.out.trans (hb3.mono (Nat.le_of_lt hz2)))
  have HiR := Lib.hid (Hi1'.out.below hb3 (Nat.le_refl _))
  clear hb3 hd3' x0 x1
  go_wp2
  go_loopw [8] (fun i W => ∃ k : Nat, k ≤ n ∧ i = .int .i64 k ∧ Below w3.heap.size w3 W) (fun i _ => n - (intOf i).toNat)
  case atStart => exact ⟨0, Nat.zero_le _, rfl, .refl _ _⟩
  case round =>
    obtain ⟨k, hk, rfl, hb⟩ := hrel
    have hsz := hb.size
    have g0 := (hb.cell (p := ⟨w.heap.size, 0, none⟩) hz3).trans y0
    have g1 := (hb.cell (p := ⟨w.heap.size, 1, none⟩) hz3).trans y1
    have HBr := Lib.hid (HB3.out.trans (hb.mono (Nat.le_of_lt hz3)))
    have Hb := Lib.hid hb
    have hzr : w.heap.size < wr.heap.size := by omega
    clear hb
    by_cases hlt : k < n
    · by_cases hck0 : ck = 0
      · subst hck0
        obtain ⟨eb, eo, rfl, hcell⟩ := HE.out.pairs (by rw [Hl.out]; omega)
        obtain ⟨hcx, hcy⟩ := hcell k (by rw [Hl.out]; exact hlt)
        have heb := World.block_lt_of_cell? _ _ hcx
        have heb : eb < w.heap.size := heb
        have he : ps.getD k (0, 0) ∈ ps := by simp [List.getD_eq_getElem?_getD, show k < ps.length by rw [Hl.out]; exact hlt]
        obtain ⟨⟨x, y⟩, hxy⟩ : ∃ e, ps.getD k (0, 0) = e := ⟨_, rfl⟩
        rw [hxy] at hcx hcy he
        clear hcell hxy
        obtain ⟨rx, hrx⟩ : ∃ rx, R.contains x = rx := ⟨_, rfl⟩
        cases rx with
        | true =>
          have hry : R.contains y = true := by
            have h2 := HR.out
            rw [← h2] at hrx ⊢
            exact reachN_closed Hck.out he hrx
          have Hrx := Lib.hid hrx
          have Hry := Lib.hid hry
          clear hrx hry he
          go_wp2_with (first
            | (go_at_call 12; (refine Calls.mono (rchk_at N _ n c ps 0 Hck.out _ Hl.out hcap (HE.out.below HBr.out (Nat.le_refl _)).pairs) ?_); rintro e wC ⟨rfl, hbC⟩; have h0 := (hbC.cell (p := ⟨w.heap.size, 0, none⟩) hzr).trans g0; have h1 := (hbC.cell (p := ⟨w.heap.size, 1, none⟩) hzr).trans g1; have HBC := Lib.hid (HBr.out.trans (hbC.mono (Nat.le_of_lt hzr))); have cx := (HBC.out.cell (p := ⟨eb, eo + k * 2, none⟩) heb).trans hcx; have cy := (HBC.out.cell (p := ⟨eb, eo + k * 2 + 1, none⟩) heb).trans hcy; have HbC := Lib.hid (Hb.out.trans (hbC.mono hsz)); clear hbC)
            | (go_at_call 25; (with_reducible refine Calls.mono (in_at b1 r j1 R x true Hrx.out Hr.out _ hm1 (HiR.out.below HbC.out (Nat.le_refl _))) ?_); rintro e wD ⟨rfl, rfl⟩)
            | (go_at_call 25; (with_reducible refine Calls.mono (in_at b1 r j1 R y true Hry.out Hr.out _ hm1 (HiR.out.below HbC.out (Nat.le_refl _))) ?_); rintro e wD ⟨rfl, rfl⟩))
          go_roundw
          case rel => exact ⟨k + 1, by omega, by go_num, HbC.out⟩
          case measure => simp [intOf]; omega
        | false =>
          have Hrx := Lib.hid hrx
          clear hrx he
          go_wp2_with (first
            | (go_at_call 12; (refine Calls.mono (rchk_at N _ n c ps 0 Hck.out _ Hl.out hcap (HE.out.below HBr.out (Nat.le_refl _)).pairs) ?_); rintro e wC ⟨rfl, hbC⟩; have h0 := (hbC.cell (p := ⟨w.heap.size, 0, none⟩) hzr).trans g0; have h1 := (hbC.cell (p := ⟨w.heap.size, 1, none⟩) hzr).trans g1; have HBC := Lib.hid (HBr.out.trans (hbC.mono (Nat.le_of_lt hzr))); have cx := (HBC.out.cell (p := ⟨eb, eo + k * 2, none⟩) heb).trans hcx; have cy := (HBC.out.cell (p := ⟨eb, eo + k * 2 + 1, none⟩) heb).trans hcy; have HbC := Lib.hid (Hb.out.trans (hbC.mono hsz)); clear hbC)
            | (go_at_call 25; (with_reducible refine Calls.mono (in_at b1 r j1 R x false Hrx.out Hr.out _ hm1 (HiR.out.below HbC.out (Nat.le_refl _))) ?_); rintro e wD ⟨rfl, rfl⟩))
          go_roundw
          case rel => exact ⟨k + 1, by omega, by go_num, HbC.out⟩
          case measure => simp [intOf]; omega
      · have hckb : (ck == 0) = false := by rw [beq_eq_false_iff_ne]; exact hck0
        go_wp2_with (go_at_call 12; (refine Calls.mono (rchk_at N a n c ps ck Hck.out _ Hl.out hcap (HE.out.below HBr.out (Nat.le_refl _)).pairs) ?_); rintro e wC ⟨rfl, hbC⟩; have HX := Lib.hid (Hb.out.trans (hbC.mono hsz)); clear hbC)
        clear g0 g1 HBr hzr hsz Hb
        go_loopw [9] (fun i W => ∃ k : Nat, k ≤ m ∧ i = .int .i64 k ∧ Below w3.heap.size w3 W) (fun i _ => m - (intOf i).toNat)
        case atStart => exact ⟨0, Nat.zero_le _, rfl, HX.out⟩
        case round =>
          clear HX
          obtain ⟨q, hq, rfl, hb⟩ := hrel
          have hsz := hb.size
          have g0 := (hb.cell (p := ⟨w.heap.size, 0, none⟩) hz3).trans y0
          have g1 := (hb.cell (p := ⟨w.heap.size, 1, none⟩) hz3).trans y1
          have HBr := Lib.hid (HB3.out.trans (hb.mono (Nat.le_of_lt hz3)))
          have Hb := Lib.hid hb
          have hzr : w.heap.size < wr.heap.size := by omega
          clear hb
          by_cases hlt2 : q < m
          · obtain ⟨fb, fo, rfl, hfc⟩ := Hz.out (by rw [Hm.out]; omega)
            have cF := hfc q (by rw [Hm.out]; exact hlt2)
            have hfb : fb < w.heap.size := World.block_lt_of_cell? _ _ cF
            replace cF := (HBr.out.cell (p := ⟨fb, fo + q, none⟩) hfb).trans cF
            have hfm : zs.getD q 0 ∈ zs := mem_getD zs q (by rw [Hm.out]; exact hlt2)
            obtain ⟨fr, hfr⟩ : ∃ fr, zs.getD q 0 = fr := ⟨_, rfl⟩
            rw [hfr] at cF hfm
            obtain ⟨rr, P, hPN⟩ := pathN_ex N ps fr t
            obtain ⟨p, hp⟩ : ∃ p, P.length = p := ⟨_, rfl⟩
            have Hp := Lib.hid hp
            have hS0 : wr.drew.cell? ⟨w.heap.size, 0, none⟩ = some (.int .i64 N) ∧ wr.drew.cell? ⟨w.heap.size, 1, none⟩ = some (.slice a n c) ∧ wr.drew.cell? ⟨fb, fo + q, none⟩ = some (.int .i64 fr) ∧ Below wr.heap.size wr wr.drew := ⟨g0, g1, cF, Drawn.below ⟨1, rfl⟩ _⟩
            clear hfc hfr hp
            cases rr with
            | true =>
              have hin : R.contains t = true := by
                have h2 := HR.out
                rw [← h2]
                exact pathN_in hPN hfm
              have Hin := Lib.hid hin
              clear hin
              have HPN := Lib.hid hPN
              clear hPN hfm
              go_wp2
              go_region_held3 (fun X => X.cell? ⟨w.heap.size, 0, none⟩ = some (.int .i64 N) ∧ X.cell? ⟨w.heap.size, 1, none⟩ = some (.slice a n c) ∧ X.cell? ⟨fb, fo + q, none⟩ = some (.int .i64 fr) ∧ Below wr.heap.size wr X)
                (first | with_reducible assumption | fail)
                (first | (go_at_call 26; (with_reducible refine Calls.mono (pathN_at N a n c ps fr t true P p HPN.out Hp.out _ Hl.out (HE.out.below (HBr.out.trans ((by exact (by assumption : _ ∧ _ ∧ _ ∧ Below wr.heap.size wr _).2.2.2.mono (Nat.le_of_lt hzr)))) (Nat.le_refl _))) ?_); rintro e wA ⟨pb, pj, rfl, hiA, hmA, hbA⟩; have hSA := keepR (by assumption) rfl hbA))
              have hS1 : wA.drew.cell? ⟨w.heap.size, 0, none⟩ = some (.int .i64 N) ∧ wA.drew.cell? ⟨w.heap.size, 1, none⟩ = some (.slice a n c) ∧ wA.drew.cell? ⟨fb, fo + q, none⟩ = some (.int .i64 fr) ∧ Below wr.heap.size wr wA.drew := ⟨hSA.1, hSA.2.1, hSA.2.2.1, hSA.2.2.2.trans (Drawn.below ⟨1, rfl⟩ _)⟩
              have hszA := hSA.2.2.2.size
              have HiA := Lib.hid (hiA.below ((Below.refl wA.heap.size wA).drew) (Nat.le_refl _))
              clear hSA hS0 g0 g1 cF hbA hiA
              go_wp2
              go_region_held3 (fun X => X.cell? ⟨w.heap.size, 0, none⟩ = some (.int .i64 N) ∧ X.cell? ⟨w.heap.size, 1, none⟩ = some (.slice a n c) ∧ X.cell? ⟨fb, fo + q, none⟩ = some (.int .i64 fr) ∧ Below wr.heap.size wr X)
                (first | with_reducible assumption | fail)
                (first | (go_at_call 27; (with_reducible refine Calls.mono (rpathN_at N a n c ps fr t true P p HPN.out Hp.out _ Hl.out (HE.out.below (HBr.out.trans ((by exact (by assumption : _ ∧ _ ∧ _ ∧ Below wr.heap.size wr _).2.2.2.mono (Nat.le_of_lt hzr)))) (Nat.le_refl _))) ?_); rintro e wB ⟨qb, qj, rfl, hiB, hmB, hbB⟩; have hSB := keepR (by assumption) rfl hbB))
              have HbB := Lib.hid (Hb.out.trans (hSB.2.2.2.mono hsz))
              have HiA2 := Lib.hid (HiA.out.below hbB (Nat.le_refl _))
              have HiB := Lib.hid hiB
              clear hSB hS1 hbB hiB
              go_wp2_with (first
                | (go_at_call 13; (with_reducible refine Calls.mono (eq_at p pb pj qb qj P Hp.out _ hmA HiA2.out HiB.out) ?_); rintro e wE ⟨rfl, hdE⟩; have HbE := Lib.hid (HbB.out.trans (hdE.below w3.heap.size)); clear hdE)
                | (go_at_call 25; (with_reducible refine Calls.mono (in_at b1 r j1 R t true Hin.out Hr.out _ hm1 (HiR.out.below HbE.out (Nat.le_refl _))) ?_); rintro e wD ⟨rfl, rfl⟩))
              go_roundw
              case rel => exact ⟨q + 1, by omega, by go_num, HbE.out⟩
              case measure => simp [intOf]; omega
            | false =>
              have HPN := Lib.hid hPN
              clear hPN hfm
              go_wp2
              go_region_held3 (fun X => X.cell? ⟨w.heap.size, 0, none⟩ = some (.int .i64 N) ∧ X.cell? ⟨w.heap.size, 1, none⟩ = some (.slice a n c) ∧ X.cell? ⟨fb, fo + q, none⟩ = some (.int .i64 fr) ∧ Below wr.heap.size wr X)
                (first | with_reducible assumption | fail)
                (first | (go_at_call 26; (with_reducible refine Calls.mono (pathN_at N a n c ps fr t false P p HPN.out Hp.out _ Hl.out (HE.out.below (HBr.out.trans ((by exact (by assumption : _ ∧ _ ∧ _ ∧ Below wr.heap.size wr _).2.2.2.mono (Nat.le_of_lt hzr)))) (Nat.le_refl _))) ?_); rintro e wA ⟨pb, pj, rfl, hiA, hmA, hbA⟩; have hSA := keepR (by assumption) rfl hbA))
              have hS1 : wA.drew.cell? ⟨w.heap.size, 0, none⟩ = some (.int .i64 N) ∧ wA.drew.cell? ⟨w.heap.size, 1, none⟩ = some (.slice a n c) ∧ wA.drew.cell? ⟨fb, fo + q, none⟩ = some (.int .i64 fr) ∧ Below wr.heap.size wr wA.drew := ⟨hSA.1, hSA.2.1, hSA.2.2.1, hSA.2.2.2.trans (Drawn.below ⟨1, rfl⟩ _)⟩
              have hszA := hSA.2.2.2.size
              have HiA := Lib.hid (hiA.below ((Below.refl wA.heap.size wA).drew) (Nat.le_refl _))
              clear hSA hS0 g0 g1 cF hbA hiA
              go_wp2
              go_region_held3 (fun X => X.cell? ⟨w.heap.size, 0, none⟩ = some (.int .i64 N) ∧ X.cell? ⟨w.heap.size, 1, none⟩ = some (.slice a n c) ∧ X.cell? ⟨fb, fo + q, none⟩ = some (.int .i64 fr) ∧ Below wr.heap.size wr X)
                (first | with_reducible assumption | fail)
                (first | (go_at_call 27; (with_reducible refine Calls.mono (rpathN_at N a n c ps fr t false P p HPN.out Hp.out _ Hl.out (HE.out.below (HBr.out.trans ((by exact (by assumption : _ ∧ _ ∧ _ ∧ Below wr.heap.size wr _).2.2.2.mono (Nat.le_of_lt hzr)))) (Nat.le_refl _))) ?_); rintro e wB ⟨qb, qj, rfl, hiB, hmB, hbB⟩; have hSB := keepR (by assumption) rfl hbB))
              have HbB := Lib.hid (Hb.out.trans (hSB.2.2.2.mono hsz))
              have HiA2 := Lib.hid (HiA.out.below hbB (Nat.le_refl _))
              have HiB := Lib.hid hiB
              clear hSB hS1 hbB hiB
              go_wp2_with (first
                | (go_at_call 13; (with_reducible refine Calls.mono (eq_at p pb pj qb qj P Hp.out _ hmA HiA2.out HiB.out) ?_); rintro e wE ⟨rfl, hdE⟩; have HbE := Lib.hid (HbB.out.trans (hdE.below w3.heap.size)); clear hdE))
              go_roundw
              case rel => exact ⟨q + 1, by omega, by go_num, HbE.out⟩
              case measure => simp [intOf]; omega
          · obtain rfl : m = q := by omega
            go_wp2_with (go_at_call 10; refine (awake_any _).mono ?_; rintro e wL ⟨rfl, hbL⟩)
            go_ret
            exact ⟨rfl, HBr.out.trans (hbL.mono (Nat.le_of_lt hzr))⟩
    · obtain rfl : n = k := by omega
      have HX := Hb
      go_wp2
      clear g0 g1 HBr hzr hsz Hb
      go_loopw [9] (fun i W => ∃ k : Nat, k ≤ m ∧ i = .int .i64 k ∧ Below w3.heap.size w3 W) (fun i _ => m - (intOf i).toNat)
      case atStart => exact ⟨0, Nat.zero_le _, rfl, HX.out⟩
      case round =>
        clear HX
        obtain ⟨q, hq, rfl, hb⟩ := hrel
        have hsz := hb.size
        have g0 := (hb.cell (p := ⟨w.heap.size, 0, none⟩) hz3).trans y0
        have g1 := (hb.cell (p := ⟨w.heap.size, 1, none⟩) hz3).trans y1
        have HBr := Lib.hid (HB3.out.trans (hb.mono (Nat.le_of_lt hz3)))
        have Hb := Lib.hid hb
        have hzr : w.heap.size < wr.heap.size := by omega
        clear hb
        by_cases hlt2 : q < m
        · obtain ⟨fb, fo, rfl, hfc⟩ := Hz.out (by rw [Hm.out]; omega)
          have cF := hfc q (by rw [Hm.out]; exact hlt2)
          have hfb : fb < w.heap.size := World.block_lt_of_cell? _ _ cF
          replace cF := (HBr.out.cell (p := ⟨fb, fo + q, none⟩) hfb).trans cF
          have hfm : zs.getD q 0 ∈ zs := mem_getD zs q (by rw [Hm.out]; exact hlt2)
          obtain ⟨fr, hfr⟩ : ∃ fr, zs.getD q 0 = fr := ⟨_, rfl⟩
          rw [hfr] at cF hfm
          obtain ⟨rr, P, hPN⟩ := pathN_ex N ps fr t
          obtain ⟨p, hp⟩ : ∃ p, P.length = p := ⟨_, rfl⟩
          have Hp := Lib.hid hp
          have hS0 : wr.drew.cell? ⟨w.heap.size, 0, none⟩ = some (.int .i64 N) ∧ wr.drew.cell? ⟨w.heap.size, 1, none⟩ = some (.slice a n c) ∧ wr.drew.cell? ⟨fb, fo + q, none⟩ = some (.int .i64 fr) ∧ Below wr.heap.size wr wr.drew := ⟨g0, g1, cF, Drawn.below ⟨1, rfl⟩ _⟩
          clear hfc hfr hp
          cases rr with
          | true =>
            have hin : R.contains t = true := by
              have h2 := HR.out
              rw [← h2]
              exact pathN_in hPN hfm
            have Hin := Lib.hid hin
            clear hin
            have HPN := Lib.hid hPN
            clear hPN hfm
            go_wp2
            go_region_held3 (fun X => X.cell? ⟨w.heap.size, 0, none⟩ = some (.int .i64 N) ∧ X.cell? ⟨w.heap.size, 1, none⟩ = some (.slice a n c) ∧ X.cell? ⟨fb, fo + q, none⟩ = some (.int .i64 fr) ∧ Below wr.heap.size wr X)
              (first | with_reducible assumption | fail)
              (first | (go_at_call 26; (with_reducible refine Calls.mono (pathN_at N a n c ps fr t true P p HPN.out Hp.out _ Hl.out (HE.out.below (HBr.out.trans ((by exact (by assumption : _ ∧ _ ∧ _ ∧ Below wr.heap.size wr _).2.2.2.mono (Nat.le_of_lt hzr)))) (Nat.le_refl _))) ?_); rintro e wA ⟨pb, pj, rfl, hiA, hmA, hbA⟩; have hSA := keepR (by assumption) rfl hbA))
            have hS1 : wA.drew.cell? ⟨w.heap.size, 0, none⟩ = some (.int .i64 N) ∧ wA.drew.cell? ⟨w.heap.size, 1, none⟩ = some (.slice a n c) ∧ wA.drew.cell? ⟨fb, fo + q, none⟩ = some (.int .i64 fr) ∧ Below wr.heap.size wr wA.drew := ⟨hSA.1, hSA.2.1, hSA.2.2.1, hSA.2.2.2.trans (Drawn.below ⟨1, rfl⟩ _)⟩
            have hszA := hSA.2.2.2.size
            have HiA := Lib.hid (hiA.below ((Below.refl wA.heap.size wA).drew) (Nat.le_refl _))
            clear hSA hS0 g0 g1 cF hbA hiA
            go_wp2
            go_region_held3 (fun X => X.cell? ⟨w.heap.size, 0, none⟩ = some (.int .i64 N) ∧ X.cell? ⟨w.heap.size, 1, none⟩ = some (.slice a n c) ∧ X.cell? ⟨fb, fo + q, none⟩ = some (.int .i64 fr) ∧ Below wr.heap.size wr X)
              (first | with_reducible assumption | fail)
              (first | (go_at_call 27; (with_reducible refine Calls.mono (rpathN_at N a n c ps fr t true P p HPN.out Hp.out _ Hl.out (HE.out.below (HBr.out.trans ((by exact (by assumption : _ ∧ _ ∧ _ ∧ Below wr.heap.size wr _).2.2.2.mono (Nat.le_of_lt hzr)))) (Nat.le_refl _))) ?_); rintro e wB ⟨qb, qj, rfl, hiB, hmB, hbB⟩; have hSB := keepR (by assumption) rfl hbB))
            have HbB := Lib.hid (Hb.out.trans (hSB.2.2.2.mono hsz))
            have HiA2 := Lib.hid (HiA.out.below hbB (Nat.le_refl _))
            have HiB := Lib.hid hiB
            clear hSB hS1 hbB hiB
            go_wp2_with (first
              | (go_at_call 13; (with_reducible refine Calls.mono (eq_at p pb pj qb qj P Hp.out _ hmA HiA2.out HiB.out) ?_); rintro e wE ⟨rfl, hdE⟩; have HbE := Lib.hid (HbB.out.trans (hdE.below w3.heap.size)); clear hdE)
              | (go_at_call 25; (with_reducible refine Calls.mono (in_at b1 r j1 R t true Hin.out Hr.out _ hm1 (HiR.out.below HbE.out (Nat.le_refl _))) ?_); rintro e wD ⟨rfl, rfl⟩))
            go_roundw
            case rel => exact ⟨q + 1, by omega, by go_num, HbE.out⟩
            case measure => simp [intOf]; omega
          | false =>
            have HPN := Lib.hid hPN
            clear hPN hfm
            go_wp2
            go_region_held3 (fun X => X.cell? ⟨w.heap.size, 0, none⟩ = some (.int .i64 N) ∧ X.cell? ⟨w.heap.size, 1, none⟩ = some (.slice a n c) ∧ X.cell? ⟨fb, fo + q, none⟩ = some (.int .i64 fr) ∧ Below wr.heap.size wr X)
              (first | with_reducible assumption | fail)
              (first | (go_at_call 26; (with_reducible refine Calls.mono (pathN_at N a n c ps fr t false P p HPN.out Hp.out _ Hl.out (HE.out.below (HBr.out.trans ((by exact (by assumption : _ ∧ _ ∧ _ ∧ Below wr.heap.size wr _).2.2.2.mono (Nat.le_of_lt hzr)))) (Nat.le_refl _))) ?_); rintro e wA ⟨pb, pj, rfl, hiA, hmA, hbA⟩; have hSA := keepR (by assumption) rfl hbA))
            have hS1 : wA.drew.cell? ⟨w.heap.size, 0, none⟩ = some (.int .i64 N) ∧ wA.drew.cell? ⟨w.heap.size, 1, none⟩ = some (.slice a n c) ∧ wA.drew.cell? ⟨fb, fo + q, none⟩ = some (.int .i64 fr) ∧ Below wr.heap.size wr wA.drew := ⟨hSA.1, hSA.2.1, hSA.2.2.1, hSA.2.2.2.trans (Drawn.below ⟨1, rfl⟩ _)⟩
            have hszA := hSA.2.2.2.size
            have HiA := Lib.hid (hiA.below ((Below.refl wA.heap.size wA).drew) (Nat.le_refl _))
            clear hSA hS0 g0 g1 cF hbA hiA
            go_wp2
            go_region_held3 (fun X => X.cell? ⟨w.heap.size, 0, none⟩ = some (.int .i64 N) ∧ X.cell? ⟨w.heap.size, 1, none⟩ = some (.slice a n c) ∧ X.cell? ⟨fb, fo + q, none⟩ = some (.int .i64 fr) ∧ Below wr.heap.size wr X)
              (first | with_reducible assumption | fail)
              (first | (go_at_call 27; (with_reducible refine Calls.mono (rpathN_at N a n c ps fr t false P p HPN.out Hp.out _ Hl.out (HE.out.below (HBr.out.trans ((by exact (by assumption : _ ∧ _ ∧ _ ∧ Below wr.heap.size wr _).2.2.2.mono (Nat.le_of_lt hzr)))) (Nat.le_refl _))) ?_); rintro e wB ⟨qb, qj, rfl, hiB, hmB, hbB⟩; have hSB := keepR (by assumption) rfl hbB))
            have HbB := Lib.hid (Hb.out.trans (hSB.2.2.2.mono hsz))
            have HiA2 := Lib.hid (HiA.out.below hbB (Nat.le_refl _))
            have HiB := Lib.hid hiB
            clear hSB hS1 hbB hiB
            go_wp2_with (first
              | (go_at_call 13; (with_reducible refine Calls.mono (eq_at p pb pj qb qj P Hp.out _ hmA HiA2.out HiB.out) ?_); rintro e wE ⟨rfl, hdE⟩; have HbE := Lib.hid (HbB.out.trans (hdE.below w3.heap.size)); clear hdE))
            go_roundw
            case rel => exact ⟨q + 1, by omega, by go_num, HbE.out⟩
            case measure => simp [intOf]; omega
        · obtain rfl : m = q := by omega
          go_wp2_with (go_at_call 10; refine (awake_any _).mono ?_; rintro e wL ⟨rfl, hbL⟩)
          go_ret
          exact ⟨rfl, HBr.out.trans (hbL.mono (Nat.le_of_lt hzr))⟩

set_option maxHeartbeats 2000000 in
set_option maxRecDepth 100000 in
theorem reach_row (N : Int) (a : Option Addr) (c : Nat) (ps : List (Int × Int)) (b : Option Addr) (d : Nat) (zs : List Int) (t : Int) (w : World) (hE : Edg w a c ps) (hzm : zs.length ≤ maxLen) (hz : Ints w b zs) (hw : (Lit.int .i64 t).wf = true) :
    Calls Try.prog 5 #[.agg #[.int .i64 N, .slice a ps.length c], .slice b zs.length d, .int .i64 t] w fun e w' => e = .returned (.bool true) ∧ Below w.heap.size w w' := by
  by_cases h1 : 200 < ps.length
  · have hcap : ps.length ≤ maxLen := by have := hE.cap; have := hE.max; omega
    unfold maxLen at hcap
    obtain ⟨n, hl⟩ : ∃ n, ps.length = n := ⟨_, rfl⟩
    rw [hl] at hcap h1 ⊢
    have hd1 : decide ((200 : Int) < (n : Int)) = true := by simp; omega
    have Hb0 := Lib.hid ((Below.refl w.heap.size w).alloc (Nat.le_refl _) (Obj.cells #[Value.int .i64 N, Value.slice a n c] 24))
    clear hE hz hl hzm
    go_enter Try.func5, Try.ntmps5
    go_wp2_with (go_at_call 10; refine (awake_any _).mono ?_; rintro e w' ⟨rfl, hb⟩)
    go_ret
    exact ⟨rfl, Hb0.out.trans (hb.mono (by simp))⟩
  · have h1' : ps.length ≤ 200 := by omega
    by_cases h2 : 200 < N
    · obtain ⟨n, hl⟩ : ∃ n, ps.length = n := ⟨_, rfl⟩
      rw [hl] at h1 h1' ⊢
      have hd1 : decide ((200 : Int) < (n : Int)) = false := by simp; omega
      have hd2 : decide ((200 : Int) < N) = true := by simp; omega
      have Hb0 := Lib.hid ((Below.refl w.heap.size w).alloc (Nat.le_refl _) (Obj.cells #[Value.int .i64 N, Value.slice a n c] 24))
      clear hE hz hl hzm
      go_enter Try.func5, Try.ntmps5
      go_wp2_with (go_at_call 10; refine (awake_any _).mono ?_; rintro e w' ⟨rfl, hb⟩)
      go_ret
      exact ⟨rfl, Hb0.out.trans (hb.mono (by simp))⟩
    · have h2' : N ≤ 200 := by omega
      by_cases h3 : 20 < zs.length
      · obtain ⟨n, hl⟩ : ∃ n, ps.length = n := ⟨_, rfl⟩
        obtain ⟨m, hm⟩ : ∃ m, zs.length = m := ⟨_, rfl⟩
        unfold maxLen at hzm
        rw [hl] at h1 h1' ⊢
        rw [hm] at h3 hzm ⊢
        have hd1 : decide ((200 : Int) < (n : Int)) = false := by simp; omega
        have hd2 : decide ((200 : Int) < N) = false := by simp; omega
        have hd3 : decide ((20 : Int) < (m : Int)) = true := by simp; omega
        have Hb0 := Lib.hid ((Below.refl w.heap.size w).alloc (Nat.le_refl _) (Obj.cells #[Value.int .i64 N, Value.slice a n c] 24))
        clear hE hz hl hm
        go_enter Try.func5, Try.ntmps5
        go_wp2_with (go_at_call 10; refine (awake_any _).mono ?_; rintro e w' ⟨rfl, hb⟩)
        go_ret
        exact ⟨rfl, Hb0.out.trans (hb.mono (by simp))⟩
      · exact reach_walk N a c ps b d zs t w hE h1' h2' (by omega) hz
end Go.Proofs.Ythgnbpiemkcdhaa
