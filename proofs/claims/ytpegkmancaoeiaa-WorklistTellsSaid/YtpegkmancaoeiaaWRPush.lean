/-
  The definition's Push.
-/
import Derived.Test.YtpegkmancaoeiaaWStep
namespace Go.Proofs.Ytpegkmancaoeiaa
open Go.RowKit Go.WideShapes
set_option linter.unusedVariables false

theorem quiet_add_drawn {P : Program} {f : FuncId} {args : Array Value} {w : World} {a n : Nat} {v : Value} (h : Calls P f args (w.drewN (a + n)) fun e w' => e = .returned v ∧ Drawn (w.drewN (a + n)) w') :
    Calls P f args (w.drewN (a + n)) fun e w'' => e = .returned v ∧ ∃ m, w'' = w.drewN (a + m) :=
  h.mono fun _ _ ⟨he, m, hm⟩ => ⟨he, n + m, by rw [hm, World.drewN_drewN, Nat.add_assoc]⟩
def RPushEnd (w : World) (rs zs : List Int) (x : Int) (e : Ending) (w' : World) : Prop :=
  ∃ a1 c1 a2 c2, e = .returned (.tuple #[.agg #[.slice a1 (pushR rs zs x).length c1, .slice a2 (pushZ rs zs x).length c2], .int .i64 (pushE rs zs x)]) ∧ Ints w' a1 (pushR rs zs x) ∧ Ints w' a2 (pushZ rs zs x) ∧ Below w.heap.size w w'
theorem RPushEnd.zero {w w' : World} {rs zs : List Int} {x c : Int} (h0 : ¬ c = 0) (he : pushE rs zs x = c) (hb : Below w.heap.size w w') : RPushEnd w rs zs x (.returned (.tuple #[.agg #[.slice none 0 0, .slice none 0 0], .int .i64 c])) w' := by
  subst he
  exact ⟨none, 0, none, 0, by rw [pushR_no h0, pushZ_no h0]; rfl, by rw [pushR_no h0]; exact fun h => absurd h (by simp), by rw [pushZ_no h0]; exact fun h => absurd h (by simp), hb⟩
theorem item_at (a : Option Addr) (c : Nat) (rs : List Int) (x : Int) (r : Bool) (hi : isI rs x = r) (w : World) (hn : rs.length ≤ 8192) :
    Calls Try.prog 25 #[.slice a rs.length c, .int .i64 x] w fun e w' => e = .returned (.bool r) ∧ w = w' := by
  subst hi
  exact item_any a c rs x w hn
theorem at_at (a : Option Addr) (c : Nat) (zs : List Int) (x : Int) (r : Int) (hr : atI zs x = r) (w : World) (hn : zs.length ≤ maxLen) (hz : Ints w a zs) :
    Calls Try.prog 26 #[.slice a zs.length c, .int .i64 x] w fun e w' => e = .returned (.int .i64 r) ∧ w = w' := by
  subst hr
  exact at_any a zs.length c zs rfl x w hn hz

section
variable (ra : Option Addr) (rc : Nat) (rs : List Int) (za : Option Addr) (zc : Nat) (zs : List Int) (x : Int) (w : World)
set_option maxHeartbeats 1000000 in
theorem rpush_bad (hn : rs.length ≤ maxLen) (hm : zs.length ≤ maxLen) (hzc : zs.length ≤ zc) (hzc2 : zc ≤ maxLen) (hr : Ints w ra rs) (hz : Ints w za zs) (hq : ¬ qchk rs zs = 0) :
    Calls Try.prog 12 #[.agg #[.slice ra rs.length rc, .slice za zs.length zc], .int .i64 x] w (RPushEnd w rs zs x) := by
  have He := Lib.hid (pushE_bad (x := x) hq)
  obtain ⟨c, hc⟩ : ∃ c, qchk rs zs = c := ⟨_, rfl⟩
  rw [hc] at hq
  have Hc := Lib.hid hc
  have hne : (c != 0) = true := by rw [bne_iff_ne]; exact hq
  have Hr := Lib.hid ((hr.alloc (.cells #[.slice ra rs.length rc, .slice za zs.length zc] 24)).alloc (.cells #[.slice none 0 0, .slice none 0 0] 24))
  have Hz := Lib.hid ((hz.alloc (.cells #[.slice ra rs.length rc, .slice za zs.length zc] 24)).alloc (.cells #[.slice none 0 0, .slice none 0 0] 24))
  clear hr hz hc
  go_enter Try.func12, Try.ntmps12
  go_wp2_with fail
  refine (rcheck_at ra rc rs za zc zs _ c Hc.out hn hm hzc hzc2 Hr.out Hz.out).mono ?_
  rintro e w1 ⟨rfl, hb⟩
  obtain ⟨hcell, hfrz⟩ := bcell hb
  have Hb := Lib.hid hb
  clear hb
  go_wp2
  refine bodyPost_ret (v := .tuple #[.agg #[.slice none 0 0, .slice none 0 0], .int .i64 c]) (by simp [results, Try.results12, go_sem, hcell]) rfl ?_
  exact RPushEnd.zero hq (He.out.trans Hc.out) ((((((Below.refl _ _).alloc (Nat.le_refl _) _).alloc (by simp) _).trans (Hb.out.mono (by simp; omega))).setCell (by simp) _).setCell (by simp) _)

set_option maxHeartbeats 1000000 in
theorem rpush_rng (hn : rs.length ≤ 8192) (hm : zs.length ≤ maxLen) (hzc : zs.length ≤ zc) (hzc2 : zc ≤ maxLen) (hr : Ints w ra rs) (hz : Ints w za zs) (hq : qchk rs zs = 0) (hi : isI rs x = false) :
    Calls Try.prog 12 #[.agg #[.slice ra rs.length rc, .slice za zs.length zc], .int .i64 x] w (RPushEnd w rs zs x) := by
  have He := Lib.hid (pushE_rng hq hi)
  have Hq := Lib.hid hq
  have Hi := Lib.hid hi
  have Hr := Lib.hid ((hr.alloc (.cells #[.slice ra rs.length rc, .slice za zs.length zc] 24)).alloc (.cells #[.slice none 0 0, .slice none 0 0] 24))
  have Hz := Lib.hid ((hz.alloc (.cells #[.slice ra rs.length rc, .slice za zs.length zc] 24)).alloc (.cells #[.slice none 0 0, .slice none 0 0] 24))
  clear hr hz hq hi
  go_enter Try.func12, Try.ntmps12
  go_wp2_with fail
  refine (rcheck_at ra rc rs za zc zs _ 0 Hq.out (by unfold maxLen; omega) hm hzc hzc2 Hr.out Hz.out).mono ?_
  rintro e w1 ⟨rfl, hb⟩
  obtain ⟨hcell, hfrz⟩ := bcell hb
  have Hb := Lib.hid hb
  clear hb
  go_wp2_with fail
  refine (item_at ra rc rs x false Hi.out _ hn).mono ?_
  rintro e w2 ⟨rfl, rfl⟩
  go_wp2
  refine bodyPost_ret (v := .tuple #[.agg #[.slice none 0 0, .slice none 0 0], .int .i64 4]) (by simp [results, Try.results12, go_sem, hcell]) rfl ?_
  exact RPushEnd.zero (by omega) He.out ((((((Below.refl _ _).alloc (Nat.le_refl _) _).alloc (by simp) _).trans (Hb.out.mono (by simp; omega))).setCell (by simp) _).setCell (by simp) _)
end

theorem rpush_fin {w w1 w4 : World} {ra a3 : Option Addr} {rc k3 : Nat} {rs zs : List Int} {x : Int} (T : pushE rs zs x = 0) (hr : Ints w ra rs) (h01 : Below w.heap.size w w1) (hS : Below w1.heap.size w1 w4) (hB : w.heap.size + 1 < w1.heap.size)
    (ho : Own w4 w1.heap.size (.slice a3 (pushZ rs zs x).length k3) (pushZ rs zs x)) :
    RPushEnd w rs zs x (.returned (.tuple #[.agg #[.slice ra rs.length rc, .slice a3 (pushZ rs zs x).length k3], .int .i64 0])) ((w4.setCell ⟨w.heap.size + 1, 0, none⟩ (.slice ra rs.length rc)).setCell ⟨w.heap.size + 1, 1, none⟩ (.slice a3 (pushZ rs zs x).length k3)) := by
  have hg := grown_trans (grown_setCell w4 (w.heap.size + 1) 0 (.slice ra rs.length rc)) (grown_setCell (w4.setCell ⟨w.heap.size + 1, 0, none⟩ (.slice ra rs.length rc)) (w.heap.size + 1) 1 (.slice a3 (pushZ rs zs x).length k3))
  have ho' : Own ((w4.setCell ⟨w.heap.size + 1, 0, none⟩ (.slice ra rs.length rc)).setCell ⟨w.heap.size + 1, 1, none⟩ (.slice a3 (pushZ rs zs x).length k3)) w1.heap.size (.slice a3 (pushZ rs zs x).length k3) (pushZ rs zs x) := World.ownsRow.kept ho hg (.inr (ho.ne_of_ge hB))
  have hbf : Below w.heap.size w ((w4.setCell ⟨w.heap.size + 1, 0, none⟩ (.slice ra rs.length rc)).setCell ⟨w.heap.size + 1, 1, none⟩ (.slice a3 (pushZ rs zs x).length k3)) := ((h01.trans (hS.mono (by omega))).setCell (by simp) _).setCell (by simp) _
  exact ⟨ra, rc, a3, k3, by rw [T, pushR_ok T], by rw [pushR_ok T]; exact hr.below hbf (Nat.le_refl _), ho'.ints, hbf⟩

set_option maxRecDepth 100000 in
set_option maxHeartbeats 4000000 in
theorem rpush_good (ra : Option Addr) (rc : Nat) (rs : List Int) (za : Option Addr) (zc : Nat) (zs : List Int) (x : Int) (w : World) (hv : QV rs zs) (hzc : zs.length ≤ zc) (hzc2 : zc ≤ maxLen) (hr : Ints w ra rs) (hz : Ints w za zs) (hzn : za = none → zc = 0) (hi : isI rs x = true) :
    Calls Try.prog 12 #[.agg #[.slice ra rs.length rc, .slice za zs.length zc], .int .i64 x] w (RPushEnd w rs zs x) := by
  have hq := (qchk_iff rs zs).2 hv
  have h1 := hv.rl
  have h2 := hv.zl
  have hzc2' := hzc2
  unfold maxLen at hzc2'
  have Hq := Lib.hid hq
  have Hi := Lib.hid hi
  have Hv := Lib.hid hv
  have Hr0 := Lib.hid hr
  have Hz0 := Lib.hid hz
  have Hr := Lib.hid ((hr.alloc (.cells #[.slice ra rs.length rc, .slice za zs.length zc] 24)).alloc (.cells #[.slice none 0 0, .slice none 0 0] 24))
  have Hz := Lib.hid ((hz.alloc (.cells #[.slice ra rs.length rc, .slice za zs.length zc] 24)).alloc (.cells #[.slice none 0 0, .slice none 0 0] 24))
  have Hzn := Lib.hid hzn
  obtain ⟨r, hat⟩ : ∃ r, atI zs x = r := ⟨_, rfl⟩
  have hmem := atI_mem (zs := zs) (x := x)
  rw [hat] at hmem
  have Hat := Lib.hid hat
  clear hr hz hq hi hv hzn hat
  go_enter Try.func12, Try.ntmps12
  go_wp2_with fail
  refine (rcheck_at ra rc rs za zc zs _ 0 Hq.out (by unfold maxLen; omega) (by unfold maxLen; omega) hzc hzc2 Hr.out Hz.out).mono ?_
  rintro e w1 ⟨rfl, hbl⟩
  have hq1 := ((QC.new w (.slice ra rs.length rc) (.slice za zs.length zc) 24).alloc (.cells #[.slice none 0 0, .slice none 0 0] 24)).below hbl
  have hq2 := (QC.new (w.alloc (.cells #[.slice ra rs.length rc, .slice za zs.length zc] 24)) (.slice none 0 0) (.slice none 0 0) 24).below hbl
  rw [World.size_alloc] at hq2
  have H01 := Lib.hid ((((Below.refl _ w).alloc (Nat.le_refl _) _).alloc (by simp) _).trans (hbl.mono (by simp; omega)) : Below w.heap.size w w1)
  have c0 := hq1.c0
  have c1 := hq1.c1
  have d0 := hq2.c0
  have d1 := hq2.c1
  have d2 := hq2.f0
  have d3 := hq2.f1
  have Hq1 := Lib.hid hq1
  have Hq2 := Lib.hid hq2
  have Hr1 := Lib.hid (Hr0.out.below H01.out (Nat.le_refl _))
  have Hz1 := Lib.hid (Hz0.out.below H01.out (Nat.le_refl _))
  clear hbl hq1 hq2
  go_wp2_with fail
  refine (item_at ra rc rs x true Hi.out _ h1).mono ?_
  rintro e w2 ⟨rfl, rfl⟩
  go_wp2_with fail
  refine (at_at za zc zs x r Hat.out _ (by unfold maxLen; omega) Hz1.out).mono ?_
  rintro e w2 ⟨rfl, rfl⟩
  by_cases hin : 0 ≤ r
  · have hx := hmem.1 hin
    have T := Lib.hid (pushE_in Hq.out Hi.out hx)
    have T2 := Lib.hid (pushZ_in T.out hx)
    clear hmem hx
    go_wp2
    refine bodyPost_ret (v := .tuple #[.agg #[.slice ra rs.length rc, .slice za zs.length zc], .int .i64 0]) (by simp [results, Try.results12, go_sem, d0, d1]) rfl ?_
    have hbf : Below w.heap.size w ((w1.setCell ⟨w.heap.size + 1, 0, none⟩ (.slice ra rs.length rc)).setCell ⟨w.heap.size + 1, 1, none⟩ (.slice za zs.length zc)) := (H01.out.setCell (by simp) _).setCell (by simp) _
    exact ⟨ra, rc, za, zc, by rw [T.out, T2.out, pushR_ok T.out], by rw [pushR_ok T.out]; exact Hr0.out.below hbf (Nat.le_refl _), by rw [T2.out]; exact Hz0.out.below hbf (Nat.le_refl _), hbf⟩
  · have hnx : ¬ x ∈ zs := fun h => hin (hmem.2 h)
    clear hmem
    by_cases hfull : 8192 ≤ zs.length
    · have T := Lib.hid (pushE_full Hq.out Hi.out hnx hfull)
      clear hnx
      go_wp2
      refine bodyPost_ret (v := .tuple #[.agg #[.slice none 0 0, .slice none 0 0], .int .i64 3]) (by simp [results, Try.results12, go_sem, d0, d1]) rfl ?_
      exact RPushEnd.zero (by omega) T.out ((H01.out.setCell (by simp) _).setCell (by simp) _)
    · have T := Lib.hid (pushE_ok Hq.out Hi.out hnx hfull)
      have T2 := Lib.hid ((pushZ_ins T.out hnx).trans (show ins rs zs x = insAt zs (pl rs zs x) x from rfl))
      have hpl := pl_le rs zs x
      have Hps := Lib.hid (pl_spec Hv.out hnx)
      have Hpn := Lib.hid (show ¬ 0 < rs.length → pl rs zs x = zs.length from fun h => by unfold pl; rw [if_neg h])
      generalize pl rs zs x = p at *
      have hxr := isI_iff.1 Hi.out
      have hlr : 0 < rs.length → x < rs.length := fun h => by have := hxr.2; rwa [lim_rank h] at this
      have hx0 := hxr.1
      clear hnx hxr
      go_wp2
      go_loopw [7] (fun i wr => ∃ k : Nat, k ≤ p ∧ i = .int .i64 k ∧ Drawn w1 wr) (fun i _ => zs.length - (intOf i).toNat)
      case atStart => exact ⟨0, Nat.zero_le _, rfl, .refl _⟩
      case round =>
        obtain ⟨k, hk, rfl, nd, rfl⟩ := hrel
        by_cases hkp : k < p
        · have hkz : k < zs.length := by omega
          by_cases hrk : 0 < rs.length
          · have hxl := hlr hrk
            obtain ⟨m, rfl⟩ : ∃ n : Nat, x = n := ⟨x.toNat, by omega⟩
            obtain ⟨b, off, rfl, hcz⟩ := Hz1.out (by omega)
            have ck := hcz k hkz
            have hmm := Hv.out.rng _ (mem_of_getD hkz)
            rw [isI_iff, lim_rank hrk] at hmm
            have e1 : zs.getD k 0 = zs[k] := by simp [List.getD, hkz]
            have hpr := (Hps.out hrk k hkz).2.2 hkp
            rw [← e1] at hpr
            generalize zs.getD k 0 = y at *
            obtain ⟨y, rfl⟩ : ∃ n : Nat, y = n := ⟨y.toNat, by omega⟩
            have hy1 : y < rs.length := by omega
            have hm1 : m < rs.length := by omega
            have Hpr := Lib.hid hpr
            have hrb : ((rs.length : Int) == 0) = false := by rw [beq_eq_false_iff_ne]; omega
            clear hcz hmm e1 hpr hlr
            go_wp2
            go_quiet ((go_at_call 27; exact quiet_add_drawn (rprec_at _ _ rs y m true Hpr.out _ (by omega) (Hr1.out.drewN _) hy1 hm1)))
            go_wp2
            go_roundw
            case rel => exact ⟨k + 1, by omega, by go_num, _, rfl⟩
            case measure => simp [intOf]; omega
          · clear hlr
            have hrb : ((rs.length : Int) == 0) = true := by rw [beq_iff_eq]; omega
            go_wp2
            go_quiet (fail)
            go_wp2
            go_roundw
            case rel => exact ⟨k + 1, by omega, by go_num, _, rfl⟩
            case measure => simp [intOf]; omega
        · obtain rfl : k = p := by omega
          by_cases hkz : k < zs.length
          · have hrk : 0 < rs.length := by
              apply Classical.byContradiction
              intro h
              have := Hpn.out h
              omega
            have hxl := hlr hrk
            obtain ⟨m, rfl⟩ : ∃ n : Nat, x = n := ⟨x.toNat, by omega⟩
            obtain ⟨b, off, rfl, hcz⟩ := Hz1.out (by omega)
            have ck := hcz k hkz
            have hmm := Hv.out.rng _ (mem_of_getD hkz)
            rw [isI_iff, lim_rank hrk] at hmm
            have e1 : zs.getD k 0 = zs[k] := by simp [List.getD, hkz]
            have hpr : prec rs zs[k] (m : Int) = false := by
              rw [← Bool.not_eq_true]
              intro h
              have := (Hps.out hrk k hkz).2.1 h
              omega
            rw [← e1] at hpr
            generalize zs.getD k 0 = y at *
            obtain ⟨y, rfl⟩ : ∃ n : Nat, y = n := ⟨y.toNat, by omega⟩
            have hy1 : y < rs.length := by omega
            have hm1 : m < rs.length := by omega
            have Hpr := Lib.hid hpr
            have hrb : ((rs.length : Int) == 0) = false := by rw [beq_eq_false_iff_ne]; omega
            have Hzw := Lib.hid (show ∀ j, j < zs.length → w1.cell? (Addr.add ⟨b, off, none⟩ j) = some (.int .i64 (zs.getD j 0)) from fun j hj => by rw [add_plain]; exact hcz j hj)
            have HzD := Lib.hid (show ∀ X, Below w1.heap.size w1 X → ∀ j, j < (zs.drop k).length → X.cell? (Addr.add ⟨b, off + k, none⟩ j) = some (.int .i64 ((zs.drop k).getD j 0)) from fun X hX => by have := lay_drop hX rfl k Hzw.out; rwa [add_plain] at this)
            have hwB1 : w.heap.size + 1 < w1.heap.size := World.block_lt_of_cell? w1 _ d1
            have hwB : w.heap.size < w1.heap.size := by omega
            have hkc : k < zc := by omega
            have hkc1 : k ≤ zc := by omega
            have hkc3 : (k : Int) ≤ (zc : Int) := by omega
            have hkc4 : (0 : Int) ≤ (k : Int) := by omega
            have hkc5 : (k : Int) ≤ (zs.length : Int) := by omega
            have hkc2 : ¬ zc = k := by omega
            clear hcz hmm e1 hpr hlr
            go_wp2
            go_quiet ((go_at_call 27; exact quiet_add_drawn (rprec_at _ _ rs y m false Hpr.out _ (by omega) (Hr1.out.drewN _) hy1 hm1)))
            go_wp2
            have hS00 : (((w1.drewN nd).drewN nq).drew).cell? ⟨w.heap.size, 1, none⟩ = some (.slice (some ⟨b, off, none⟩) zs.length zc) ∧ Below w1.heap.size w1 (((w1.drewN nd).drewN nq).drew) := ⟨c1, ((Drawn.below ⟨nd, rfl⟩ _).trans (Drawn.below ⟨nq, rfl⟩ _)).trans (Drawn.below ⟨1, rfl⟩ _)⟩
            have hS0 : (w1.drewN (nd + nq + 1)).cell? ⟨w.heap.size, 1, none⟩ = some (.slice (some ⟨b, off, none⟩) zs.length zc) ∧ Below w1.heap.size w1 (w1.drewN (nd + nq + 1)) := ⟨c1, Drawn.below ⟨_, rfl⟩ _⟩
            go_region_held3 (fun w' => w'.cell? ⟨w.heap.size, 1, none⟩ = some (.slice (some ⟨b, off, none⟩) zs.length zc) ∧ Below w1.heap.size w1 w')
              (first
                | (with_reducible assumption)
                | (with_reducible exact keep1A (by assumption) hwB rfl _)
                | fail)
              (first
                | (refine step_append_ints rfl (.tmp 56) (.tmp 60) rfl w1.heap.size _ [] rfl (made_at _ _ rfl _ (Nat.le_refl _)) _ _ _ (zs.take k) rfl (by rw [List.length_take]; omega) (lay_take (by exact (by assumption : _ ∧ _).2) rfl k (by omega) Hzw.out) (by simp; omega) (by simp) ?_; intro v1 w2 ho1 hg1; have hS1 := keep1G (by assumption) hwB rfl hg1 (made_at _ _ rfl _ (Nat.le_refl _)))
                | (refine step_append_ints rfl (.tmp 56) (.tmp 60) rfl w1.heap.size _ [] rfl ((made_at _ _ rfl _ (Nat.le_refl _)).alloc _) _ _ _ (zs.take k) rfl (by rw [List.length_take]; omega) (lay_take (by exact (by assumption : _ ∧ _).2) rfl k (by omega) Hzw.out) (by simp; omega) (by simp; omega) ?_; intro v1 w2 ho1 hg1; have hS1 := keep1G (by assumption) hwB rfl hg1 ((made_at _ _ rfl _ (Nat.le_refl _)).alloc _); have cpx : w2.cell? ⟨w1.heap.size + 1, 0, none⟩ = some (.int .i64 (m : Int)) := grown_cell hg1 (head_at _ _ (by simp) _) (show some (w1.heap.size + 1) ≠ some w1.heap.size by simp))
                | (refine step_append_ints rfl (.tmp 56) (.tmp 60) rfl w1.heap.size _ [] rfl (made_at _ _ (by simp) _ (by simp)) _ _ _ (zs.take k) rfl (by rw [List.length_take]; omega) (lay_take (by exact (by assumption : _ ∧ _).2) rfl k (by omega) Hzw.out) (by simp; omega) (by simp; omega) ?_; intro v1 w2 ho1 hg1; have hS1 := keep1G (by assumption) hwB rfl hg1 (made_at _ _ (by simp) _ (by simp)); have cpx : w2.cell? ⟨w1.heap.size, 0, none⟩ = some (.int .i64 (m : Int)) := grown_cell hg1 (head_under _ _ rfl _ _) (show some w1.heap.size ≠ some (w1.heap.size + 1) by simp))
                | (refine step_append_ints rfl (.tmp 61) (.tmp 63) rfl w1.heap.size _ _ rfl (ho1.alloc _) _ 1 1 [(m : Int)] rfl rfl (one_cell (head_at _ _ rfl _)) (by simp only [List.nil_append, List.length_take]; omega) (by have := hS1.2.size; simp; omega) ?_; intro v2 w3 ho2 hg2; have hS2 := keep1G (by assumption) hwB rfl hg2 (ho1.alloc _))
                | (refine step_append_ints rfl (.tmp 61) (.tmp 63) rfl w1.heap.size _ _ rfl ho1 _ 1 1 [(m : Int)] rfl rfl (one_cell cpx) (by simp only [List.nil_append, List.length_take]; omega) hS1.2.size ?_; intro v2 w3 ho2 hg2; have hS2 := keep1G (by assumption) hwB rfl hg2 ho1)
                | (refine step_append_ints rfl (.tmp 64) (.tmp 68) rfl w1.heap.size _ _ rfl ho2 _ _ _ (zs.drop k) rfl (by rw [List.length_drop]; try omega) (HzD.out _ (by exact (by assumption : _ ∧ _).2)) (by simp only [List.nil_append, List.length_append, List.length_take, List.length_cons, List.length_nil]; omega) hS2.2.size ?_; intro v3 w4 ho3 hg3; have hS3 := keep1G (by assumption) hwB rfl hg3 ho2
                   have ho4 : Own w4 w1.heap.size v3 (pushZ rs zs (m : Int)) := by rw [T2.out]; unfold insAt; simpa using ho3
                   obtain ⟨a3, k3, rfl, -, -⟩ := ho4.shape2
                   have i4 := (hS3.2.cell (p := ⟨w.heap.size, 0, none⟩) hwB).trans c0
                   have i0 := (hS3.2.cell (p := ⟨w.heap.size + 1, 0, none⟩) hwB1).trans d0
                   have i1 := (hS3.2.cell (p := ⟨w.heap.size + 1, 1, none⟩) hwB1).trans d1
                   have i2 := (hS3.2.frozen (p := ⟨w.heap.size + 1, 0, none⟩) hwB1).trans d2
                   have i3 := (hS3.2.frozen (p := ⟨w.heap.size + 1, 1, none⟩) hwB1).trans d3))
            all_goals
              go_wp2
              refine bodyPost_ret (v := .tuple #[.agg #[.slice ra rs.length rc, .slice a3 (pushZ rs zs (m : Int)).length k3], .int .i64 0]) (by simp [results, Try.results12, go_sem, i0, i1]) rfl ?_
              exact rpush_fin T.out Hr0.out H01.out hS3.2 hwB1 ho4
          · clear hlr
            have hwB1 : w.heap.size + 1 < w1.heap.size := World.block_lt_of_cell? w1 _ d1
            have hwB : w.heap.size < w1.heap.size := by omega
            have hkc1 : k ≤ zc := by omega
            have hkc3 : (k : Int) ≤ (zc : Int) := by omega
            have hkc4 : (0 : Int) ≤ (k : Int) := by omega
            have hkc5 : (k : Int) ≤ (zs.length : Int) := by omega
            rcases za with _ | ad
            · obtain rfl : zc = 0 := Hzn.out rfl
              obtain rfl : zs = [] := List.length_eq_zero_iff.1 (by omega)
              obtain rfl : k = 0 := by simpa using hpl
              go_wp2
              go_quiet (fail)
              go_wp2
              have hS00 : (((w1.drewN nd).drewN nq).drew).cell? ⟨w.heap.size, 1, none⟩ = some (.slice none 0 0) ∧ Below w1.heap.size w1 (((w1.drewN nd).drewN nq).drew) := ⟨c1, ((Drawn.below ⟨nd, rfl⟩ _).trans (Drawn.below ⟨nq, rfl⟩ _)).trans (Drawn.below ⟨1, rfl⟩ _)⟩
              have hS0 : (w1.drewN (nd + nq + 1)).cell? ⟨w.heap.size, 1, none⟩ = some (.slice none 0 0) ∧ Below w1.heap.size w1 (w1.drewN (nd + nq + 1)) := ⟨c1, Drawn.below ⟨_, rfl⟩ _⟩
              go_region_held3 (fun w' => w'.cell? ⟨w.heap.size, 1, none⟩ = some (.slice none 0 0) ∧ Below w1.heap.size w1 w')
                (first
                  | (with_reducible assumption)
                  | (with_reducible exact keep1A (by assumption) hwB rfl _)
                  | fail)
                (first
                  | (refine step_append_nil rfl (.tmp 56) (.tmp 60) rfl w1.heap.size _ [] rfl (made_at _ _ rfl _ (Nat.le_refl _)) rfl ?_)
                  | (refine step_append_nil rfl (.tmp 56) (.tmp 60) rfl w1.heap.size _ [] rfl ((made_at _ _ rfl _ (Nat.le_refl _)).alloc _) rfl ?_)
                  | (refine step_append_nil rfl (.tmp 56) (.tmp 60) rfl w1.heap.size _ [] rfl (made_at _ _ (by simp) _ (by simp)) rfl ?_)
                  | (refine step_append_ints rfl (.tmp 61) (.tmp 63) rfl w1.heap.size _ [] rfl ((made_at _ _ rfl _ (Nat.le_refl _)).alloc _) _ 1 1 [x] rfl rfl (one_cell (head_at _ _ (by simp) _)) (by simp) (by simp; omega) ?_; intro v2 w4 ho2 hg2; have hS3 := keep1G (by assumption) hwB rfl hg2 ((made_at _ _ rfl _ (Nat.le_refl _)).alloc _))
                  | (refine step_append_ints rfl (.tmp 61) (.tmp 63) rfl w1.heap.size _ [] rfl (made_at _ _ (by simp) _ (by simp)) _ 1 1 [x] rfl rfl (one_cell (head_under _ _ rfl _ _)) (by simp) (by simp; omega) ?_; intro v2 w4 ho2 hg2; have hS3 := keep1G (by assumption) hwB rfl hg2 (made_at _ _ (by simp) _ (by simp)))
                  | (refine step_append_nil rfl (.tmp 64) (.tmp 68) rfl w1.heap.size _ _ rfl ho2 rfl ?_
                     have ho4 : Own w4 w1.heap.size v2 (pushZ rs [] x) := by rw [T2.out]; exact ho2
                     obtain ⟨a3, k3, rfl, -, -⟩ := ho4.shape2
                     have i4 := (hS3.2.cell (p := ⟨w.heap.size, 0, none⟩) hwB).trans c0
                     have i0 := (hS3.2.cell (p := ⟨w.heap.size + 1, 0, none⟩) hwB1).trans d0
                     have i1 := (hS3.2.cell (p := ⟨w.heap.size + 1, 1, none⟩) hwB1).trans d1
                     have i2 := (hS3.2.frozen (p := ⟨w.heap.size + 1, 0, none⟩) hwB1).trans d2
                     have i3 := (hS3.2.frozen (p := ⟨w.heap.size + 1, 1, none⟩) hwB1).trans d3))
              all_goals
                go_wp2
                refine bodyPost_ret (v := .tuple #[.agg #[.slice ra rs.length rc, .slice a3 (pushZ rs [] x).length k3], .int .i64 0]) (by simp [results, Try.results12, go_sem, i0, i1]) rfl ?_
                exact rpush_fin T.out Hr0.out H01.out hS3.2 hwB1 ho4
            · have Hzw := Lib.hid (show ∀ j, j < zs.length → w1.cell? (Addr.add ad j) = some (.int .i64 (zs.getD j 0)) from fun j hj => by
                obtain ⟨b, off, hab, hcz⟩ := Hz1.out (by omega)
                cases hab
                rw [add_plain]; exact hcz j hj)
              by_cases hkc2 : zc = k
              · go_wp2
                go_quiet (fail)
                go_wp2
                have hS00 : (((w1.drewN nd).drewN nq).drew).cell? ⟨w.heap.size, 1, none⟩ = some (.slice (some ad) zs.length zc) ∧ Below w1.heap.size w1 (((w1.drewN nd).drewN nq).drew) := ⟨c1, ((Drawn.below ⟨nd, rfl⟩ _).trans (Drawn.below ⟨nq, rfl⟩ _)).trans (Drawn.below ⟨1, rfl⟩ _)⟩
                have hS0 : (w1.drewN (nd + nq + 1)).cell? ⟨w.heap.size, 1, none⟩ = some (.slice (some ad) zs.length zc) ∧ Below w1.heap.size w1 (w1.drewN (nd + nq + 1)) := ⟨c1, Drawn.below ⟨_, rfl⟩ _⟩
                go_region_held3 (fun w' => w'.cell? ⟨w.heap.size, 1, none⟩ = some (.slice (some ad) zs.length zc) ∧ Below w1.heap.size w1 w')
                  (first
                    | (with_reducible assumption)
                    | (with_reducible exact keep1A (by assumption) hwB rfl _)
                    | fail)
                  (first
                    | (refine step_append_ints rfl (.tmp 56) (.tmp 60) rfl w1.heap.size _ [] rfl (made_at _ _ rfl _ (Nat.le_refl _)) _ _ _ (zs.take k) rfl (by rw [List.length_take]; omega) (lay_take (by exact (by assumption : _ ∧ _).2) rfl k (by omega) Hzw.out) (by simp; omega) (by simp) ?_; intro v1 w2 ho1 hg1; have hS1 := keep1G (by assumption) hwB rfl hg1 (made_at _ _ rfl _ (Nat.le_refl _)))
                    | (refine step_append_ints rfl (.tmp 56) (.tmp 60) rfl w1.heap.size _ [] rfl ((made_at _ _ rfl _ (Nat.le_refl _)).alloc _) _ _ _ (zs.take k) rfl (by rw [List.length_take]; omega) (lay_take (by exact (by assumption : _ ∧ _).2) rfl k (by omega) Hzw.out) (by simp; omega) (by simp; omega) ?_; intro v1 w2 ho1 hg1; have hS1 := keep1G (by assumption) hwB rfl hg1 ((made_at _ _ rfl _ (Nat.le_refl _)).alloc _); have cpx : w2.cell? ⟨w1.heap.size + 1, 0, none⟩ = some (.int .i64 x) := grown_cell hg1 (head_at _ _ (by simp) _) (show some (w1.heap.size + 1) ≠ some w1.heap.size by simp))
                    | (refine step_append_ints rfl (.tmp 56) (.tmp 60) rfl w1.heap.size _ [] rfl (made_at _ _ (by simp) _ (by simp)) _ _ _ (zs.take k) rfl (by rw [List.length_take]; omega) (lay_take (by exact (by assumption : _ ∧ _).2) rfl k (by omega) Hzw.out) (by simp; omega) (by simp; omega) ?_; intro v1 w2 ho1 hg1; have hS1 := keep1G (by assumption) hwB rfl hg1 (made_at _ _ (by simp) _ (by simp)); have cpx : w2.cell? ⟨w1.heap.size, 0, none⟩ = some (.int .i64 x) := grown_cell hg1 (head_under _ _ rfl _ _) (show some w1.heap.size ≠ some (w1.heap.size + 1) by simp))
                    | (refine step_append_ints rfl (.tmp 61) (.tmp 63) rfl w1.heap.size _ _ rfl (ho1.alloc _) _ 1 1 [x] rfl rfl (one_cell (head_at _ _ rfl _)) (by simp only [List.nil_append, List.length_take]; omega) (by have := hS1.2.size; simp; omega) ?_; intro v2 w3 ho2 hg2; have hS2 := keep1G (by assumption) hwB rfl hg2 (ho1.alloc _))
                    | (refine step_append_ints rfl (.tmp 61) (.tmp 63) rfl w1.heap.size _ _ rfl ho1 _ 1 1 [x] rfl rfl (one_cell cpx) (by simp only [List.nil_append, List.length_take]; omega) hS1.2.size ?_; intro v2 w3 ho2 hg2; have hS2 := keep1G (by assumption) hwB rfl hg2 ho1)
                    | (refine step_append_ints rfl (.tmp 64) (.tmp 68) rfl w1.heap.size _ _ rfl ho2 _ _ _ (zs.drop k) rfl (by rw [List.length_drop]; try omega) (fun j hj => absurd hj (by rw [List.length_drop]; omega)) (by simp only [List.nil_append, List.length_append, List.length_take, List.length_cons, List.length_nil]; omega) hS2.2.size ?_; intro v3 w4 ho3 hg3; have hS3 := keep1G (by assumption) hwB rfl hg3 ho2
                       have ho4 : Own w4 w1.heap.size v3 (pushZ rs zs x) := by rw [T2.out]; unfold insAt; simpa using ho3
                       obtain ⟨a3, k3, rfl, -, -⟩ := ho4.shape2
                       have i4 := (hS3.2.cell (p := ⟨w.heap.size, 0, none⟩) hwB).trans c0
                       have i0 := (hS3.2.cell (p := ⟨w.heap.size + 1, 0, none⟩) hwB1).trans d0
                       have i1 := (hS3.2.cell (p := ⟨w.heap.size + 1, 1, none⟩) hwB1).trans d1
                       have i2 := (hS3.2.frozen (p := ⟨w.heap.size + 1, 0, none⟩) hwB1).trans d2
                       have i3 := (hS3.2.frozen (p := ⟨w.heap.size + 1, 1, none⟩) hwB1).trans d3))
                all_goals
                  go_wp2
                  refine bodyPost_ret (v := .tuple #[.agg #[.slice ra rs.length rc, .slice a3 (pushZ rs zs x).length k3], .int .i64 0]) (by simp [results, Try.results12, go_sem, i0, i1]) rfl ?_
                  exact rpush_fin T.out Hr0.out H01.out hS3.2 hwB1 ho4
              · go_wp2
                go_quiet (fail)
                go_wp2
                have hS00 : (((w1.drewN nd).drewN nq).drew).cell? ⟨w.heap.size, 1, none⟩ = some (.slice (some ad) zs.length zc) ∧ Below w1.heap.size w1 (((w1.drewN nd).drewN nq).drew) := ⟨c1, ((Drawn.below ⟨nd, rfl⟩ _).trans (Drawn.below ⟨nq, rfl⟩ _)).trans (Drawn.below ⟨1, rfl⟩ _)⟩
                have hS0 : (w1.drewN (nd + nq + 1)).cell? ⟨w.heap.size, 1, none⟩ = some (.slice (some ad) zs.length zc) ∧ Below w1.heap.size w1 (w1.drewN (nd + nq + 1)) := ⟨c1, Drawn.below ⟨_, rfl⟩ _⟩
                go_region_held3 (fun w' => w'.cell? ⟨w.heap.size, 1, none⟩ = some (.slice (some ad) zs.length zc) ∧ Below w1.heap.size w1 w')
                  (first
                    | (with_reducible assumption)
                    | (with_reducible exact keep1A (by assumption) hwB rfl _)
                    | fail)
                  (first
                    | (refine step_append_ints rfl (.tmp 56) (.tmp 60) rfl w1.heap.size _ [] rfl (made_at _ _ rfl _ (Nat.le_refl _)) _ _ _ (zs.take k) rfl (by rw [List.length_take]; omega) (lay_take (by exact (by assumption : _ ∧ _).2) rfl k (by omega) Hzw.out) (by simp; omega) (by simp) ?_; intro v1 w2 ho1 hg1; have hS1 := keep1G (by assumption) hwB rfl hg1 (made_at _ _ rfl _ (Nat.le_refl _)))
                    | (refine step_append_ints rfl (.tmp 56) (.tmp 60) rfl w1.heap.size _ [] rfl ((made_at _ _ rfl _ (Nat.le_refl _)).alloc _) _ _ _ (zs.take k) rfl (by rw [List.length_take]; omega) (lay_take (by exact (by assumption : _ ∧ _).2) rfl k (by omega) Hzw.out) (by simp; omega) (by simp; omega) ?_; intro v1 w2 ho1 hg1; have hS1 := keep1G (by assumption) hwB rfl hg1 ((made_at _ _ rfl _ (Nat.le_refl _)).alloc _); have cpx : w2.cell? ⟨w1.heap.size + 1, 0, none⟩ = some (.int .i64 x) := grown_cell hg1 (head_at _ _ (by simp) _) (show some (w1.heap.size + 1) ≠ some w1.heap.size by simp))
                    | (refine step_append_ints rfl (.tmp 56) (.tmp 60) rfl w1.heap.size _ [] rfl (made_at _ _ (by simp) _ (by simp)) _ _ _ (zs.take k) rfl (by rw [List.length_take]; omega) (lay_take (by exact (by assumption : _ ∧ _).2) rfl k (by omega) Hzw.out) (by simp; omega) (by simp; omega) ?_; intro v1 w2 ho1 hg1; have hS1 := keep1G (by assumption) hwB rfl hg1 (made_at _ _ (by simp) _ (by simp)); have cpx : w2.cell? ⟨w1.heap.size, 0, none⟩ = some (.int .i64 x) := grown_cell hg1 (head_under _ _ rfl _ _) (show some w1.heap.size ≠ some (w1.heap.size + 1) by simp))
                    | (refine step_append_ints rfl (.tmp 61) (.tmp 63) rfl w1.heap.size _ _ rfl (ho1.alloc _) _ 1 1 [x] rfl rfl (one_cell (head_at _ _ rfl _)) (by simp only [List.nil_append, List.length_take]; omega) (by have := hS1.2.size; simp; omega) ?_; intro v2 w3 ho2 hg2; have hS2 := keep1G (by assumption) hwB rfl hg2 (ho1.alloc _))
                    | (refine step_append_ints rfl (.tmp 61) (.tmp 63) rfl w1.heap.size _ _ rfl ho1 _ 1 1 [x] rfl rfl (one_cell cpx) (by simp only [List.nil_append, List.length_take]; omega) hS1.2.size ?_; intro v2 w3 ho2 hg2; have hS2 := keep1G (by assumption) hwB rfl hg2 ho1)
                    | (refine step_append_ints rfl (.tmp 64) (.tmp 68) rfl w1.heap.size _ _ rfl ho2 _ _ _ (zs.drop k) rfl (by rw [List.length_drop]; try omega) (fun j hj => absurd hj (by rw [List.length_drop]; omega)) (by simp only [List.nil_append, List.length_append, List.length_take, List.length_cons, List.length_nil]; omega) hS2.2.size ?_; intro v3 w4 ho3 hg3; have hS3 := keep1G (by assumption) hwB rfl hg3 ho2
                       have ho4 : Own w4 w1.heap.size v3 (pushZ rs zs x) := by rw [T2.out]; unfold insAt; simpa using ho3
                       obtain ⟨a3, k3, rfl, -, -⟩ := ho4.shape2
                       have i4 := (hS3.2.cell (p := ⟨w.heap.size, 0, none⟩) hwB).trans c0
                       have i0 := (hS3.2.cell (p := ⟨w.heap.size + 1, 0, none⟩) hwB1).trans d0
                       have i1 := (hS3.2.cell (p := ⟨w.heap.size + 1, 1, none⟩) hwB1).trans d1
                       have i2 := (hS3.2.frozen (p := ⟨w.heap.size + 1, 0, none⟩) hwB1).trans d2
                       have i3 := (hS3.2.frozen (p := ⟨w.heap.size + 1, 1, none⟩) hwB1).trans d3))
                all_goals
                  go_wp2
                  refine bodyPost_ret (v := .tuple #[.agg #[.slice ra rs.length rc, .slice a3 (pushZ rs zs x).length k3], .int .i64 0]) (by simp [results, Try.results12, go_sem, i0, i1]) rfl ?_
                  exact rpush_fin T.out Hr0.out H01.out hS3.2 hwB1 ho4
end Go.Proofs.Ytpegkmancaoeiaa
