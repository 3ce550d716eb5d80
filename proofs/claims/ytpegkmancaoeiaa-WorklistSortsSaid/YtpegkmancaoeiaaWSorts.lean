/-
  WorklistSorts: the walk of the law. A worklist to which all items are pushed returns them by priority and then by number.
-/
import Derived.Test.YtpegkmancaoeiaaWArr
namespace Go.Proofs.Ytpegkmancaoeiaa
open Go.RowKit Go.WideShapes
set_option linter.unusedVariables false

theorem mod_inj {n t i j : Nat} (hi : i < n) (hj : j < n) (h : (i + t) % n = (j + t) % n) : i = j := by
  rcases Nat.le_total i j with hle | hle
  · have h1 := Nat.sub_mod_eq_zero_of_mod_eq h.symm
    rw [show j + t - (i + t) = j - i from by omega, Nat.mod_eq_of_lt (by omega)] at h1
    omega
  · have h1 := Nat.sub_mod_eq_zero_of_mod_eq h
    rw [show i + t - (j + t) = i - j from by omega, Nat.mod_eq_of_lt (by omega)] at h1
    omega

structure SortRel (w : World) (B : Nat) (rs : List Int) (t k : Nat) (v1 v2 : Value) (zs : List Int) (wr : World) : Prop where
  kn : k ≤ rs.length
  qc : QC wr B v1 v2
  o1 : Own wr w.heap.size v1 rs
  n1 : v1.ownBlock ≠ some B
  o2 : Own wr (B + 1) v2 zs
  qv : QV rs zs
  mem : ∀ y, y ∈ zs ↔ ∃ i, i < k ∧ y = (((i + t) % rs.length : Nat) : Int)
  len : zs.length = k
  bel : Below w.heap.size w wr

theorem sort_step {rs zs : List Int} {t k : Nat} (hv : QV rs zs) (hk : k < rs.length) (hl : zs.length = k) (h120 : rs.length ≤ 120) (hm : ∀ y, y ∈ zs ↔ ∃ i, i < k ∧ y = (((i + t) % rs.length : Nat) : Int)) :
    pushE rs zs (((k + t) % rs.length : Nat) : Int) = 0 ∧ pushR rs zs (((k + t) % rs.length : Nat) : Int) = rs ∧ (pushZ rs zs (((k + t) % rs.length : Nat) : Int)).length = k + 1 ∧
    ∀ y, y ∈ pushZ rs zs (((k + t) % rs.length : Nat) : Int) ↔ ∃ i, i < k + 1 ∧ y = (((i + t) % rs.length : Nat) : Int) := by
  have hlt := Nat.mod_lt (k + t) (show 0 < rs.length by omega)
  have hi : isI rs (((k + t) % rs.length : Nat) : Int) = true := isI_iff.2 ⟨by omega, by rw [lim_rank (by omega)]; omega⟩
  have hn : ¬ (((k + t) % rs.length : Nat) : Int) ∈ zs := by
    rw [hm]
    rintro ⟨i, hi, e⟩
    have := mod_inj (t := t) (show k < rs.length from hk) (show i < rs.length by omega) (by omega)
    omega
  have h0 := pushE_ok ((qchk_iff _ _).2 hv) hi hn (by omega)
  refine ⟨h0, pushR_ok h0, ?_, fun y => ?_⟩
  · rw [pushZ_ins h0 hn, length_ins, hl]
  · rw [mem_pushZ h0, hm]
    constructor
    · rintro (rfl | ⟨i, h1, h2⟩)
      · exact ⟨k, by omega, rfl⟩
      · exact ⟨i, by omega, h2⟩
    · rintro ⟨i, h1, h2⟩
      by_cases e : i = k
      · subst e; exact .inl h2
      · exact .inr ⟨i, by omega, h2⟩

set_option maxHeartbeats 8000000 in
set_option maxRecDepth 100000 in
theorem sorts_any (a : Option Addr) (c : Nat) (rs : List Int) (tI : Int) (w : World) (hn : rs.length ≤ maxLen) (hz : Ints w a rs) (hnil : a = none → c = 0) (ht : (Lit.int .u8 tI).wf = true) :
    Calls Try.prog 6 #[.slice a rs.length c, .int .u8 tI] w fun e w' => e = .returned (.bool true) ∧ Below w.heap.size w w' := by
  unfold maxLen at hn
  obtain ⟨t, rfl, ht2⟩ : ∃ t : Nat, tI = t ∧ t < 256 := by
    simp [Lit.wf] at ht
    have m1 : IntKind.u8.min = 0 := rfl
    have m2 : IntKind.u8.max = 255 := rfl
    rw [m1, m2] at ht
    exact ⟨tI.toNat, by omega, by omega⟩
  clear ht
  by_cases hbig : rs.length = 0 ∨ 120 < rs.length
  · have hb0 : rs.length = 0 → ((rs.length : Int) == 0) = true := fun h => by rw [h]; rfl
    rcases hbig with h | h
    · have hb := hb0 h
      have Hh := Lib.hid h
      clear hb0 h
      go_enter Try.func6, Try.ntmps6
      go_wp2_with (go_at_call 8; refine (awake_any _).mono ?_; rintro e w' ⟨rfl, hb⟩)
      go_ret
      exact ⟨rfl, hb⟩
    · clear hb0
      have hb : ((rs.length : Int) == 0) = false := by rw [beq_eq_false_iff_ne]; omega
      go_enter Try.func6, Try.ntmps6
      go_wp2_with (go_at_call 8; refine (awake_any _).mono ?_; rintro e w' ⟨rfl, hb⟩)
      go_ret
      exact ⟨rfl, hb⟩
  · have hb : ((rs.length : Int) == 0) = false := by rw [beq_eq_false_iff_ne]; omega
    have h0 : 0 < rs.length := by omega
    have h120 : rs.length ≤ 120 := by omega
    have Hz := Lib.hid hz
    have Hnil := Lib.hid hnil
    clear hz hnil hbig
    go_enter Try.func6, Try.ntmps6
    go_wp2_with fail
    refine (new_at a _ c rs rfl w (by omega) Hz.out Hnil.out).mono ?_
    rintro e w1 ⟨hb1, (⟨-, v1, rfl, ho1⟩ | ⟨hl, -⟩)⟩
    · obtain ⟨a1, k1, rfl, -, -⟩ := ho1.shape2
      have hs1 := hb1.size
      have H0 := Lib.hid (show SortRel w w1.heap.size rs t 0 (.slice a1 rs.length k1) (.slice none 0 0) [] (w1.alloc (.cells #[.slice a1 rs.length k1, .slice none 0 0] 24)) from
        ⟨Nat.zero_le _, QC.new _ _ _ _, ho1.alloc _, ho1.ne_of_lt (Nat.le_refl _), Own.nil _ _, ⟨by omega, by simp, by simp, by simp, fun _ => by simp⟩, by simp, rfl, hb1.alloc hs1 _⟩)
      clear hb1 ho1
      go_wp2
      go_loopw [6, 7] (fun e i wr => e = .int .i64 0 ∧ ∃ (k : Nat) (v1 v2 : Value) (zs : List Int), i = .int .i64 k ∧ SortRel w w1.heap.size rs t k v1 v2 zs wr) (fun _ i _ => rs.length - (intOf i).toNat)
      case atStart => exact ⟨rfl, 0, _, _, _, rfl, H0.out⟩
      case round =>
        obtain ⟨rfl, k, v1, v2, zs, rfl, hR⟩ := hrel
        have HR := Lib.hid hR
        have hk := hR.kn
        have Hlen := Lib.hid hR.len
        have hlen1 : zs.length ≤ rs.length := by rw [hR.len]; exact hR.kn
        obtain ⟨a3, k3, rfl, -, -⟩ := hR.o1.shape2
        obtain ⟨a4, k4, rfl, -, -⟩ := hR.o2.shape2
        have q0 := hR.qc.c0
        have q1 := hR.qc.c1
        have q2 := hR.qc.f0
        have q3 := hR.qc.f1
        have hBs := hR.qc.lt
        have hsz := hR.bel.size
        clear hR H0
        by_cases hlt : k < rs.length
        · obtain ⟨he, hpr, hpl, hpm⟩ := sort_step (t := t) HR.out.qv hlt Hlen.out h120 HR.out.mem
          have hqv := push_valid he
          have hml := Nat.mod_lt (k + t) h0
          have hw1 : IntKind.i64.wrap (t : Int) = (t : Int) := IntWalk.i64_in _ (by omega)
          have hw2 : IntKind.i64.wrap ((k : Int) + (t : Int)) = (k : Int) + (t : Int) := IntWalk.i64_in _ (by omega)
          have hw3 : Int.tmod ((k : Int) + (t : Int)) (rs.length : Int) = (((k + t) % rs.length : Nat) : Int) := by
            rw [show ((k : Int) + (t : Int)) = ((k + t : Nat) : Int) from by omega]; rfl
          have hw4 : ((k : Int) + (t : Int)) % (rs.length : Int) = (((k + t) % rs.length : Nat) : Int) := by rw [show ((k : Int) + (t : Int)) = ((k + t : Nat) : Int) from by omega]; rfl
          have hnz2 : ¬ rs.length = 0 := by omega
          have hnz3 : ((rs.length : Int) != 0) = true := by simpa using hnz2
          have hnz : ¬ (rs.length : Int) = 0 := by omega
          generalize (k + t) % rs.length = x at *
          generalize hzs2 : pushZ rs zs (x : Int) = zs2 at *
          have hw5 : IntKind.i64.wrap (x : Int) = (x : Int) := IntWalk.i64_in _ (by omega)
          have Hpz := Lib.hid hzs2
          have He := Lib.hid he
          have Hpr := Lib.hid hpr
          have Hpm := Lib.hid hpm
          have Hpl := Lib.hid hpl
          have Hqv := Lib.hid hqv
          have H1i := Lib.hid (show Ints wr.drew a3 rs from HR.out.o1.ints)
          have H2i := Lib.hid (show Ints wr.drew a4 zs from HR.out.o2.ints)
          have Hqd := Lib.hid (show QC wr.drew w1.heap.size _ _ from HR.out.qc.below (Drawn.below ⟨1, rfl⟩ _))
          clear he hpr hpm hpl hqv hzs2
          go_wp2
          go_region_with (first
            | (go_at_call 11; (with_reducible refine Calls.mono (push_at a3 _ k3 rs rfl a4 _ k4 zs rfl x wr.drew (by unfold maxLen; omega) (by unfold maxLen; omega) H1i.out H2i.out HR.out.o1.nilcap HR.out.o2.nilcap) ?_); rintro e w2 ⟨v5, v6, rfl, ho5, ho6, hb2⟩; rw [He.out]; rw [Hpr.out] at ho5; rw [Hpz.out] at ho6
               obtain ⟨a5, k5, rfl, -, -⟩ := ho5.shape2; obtain ⟨a6, k6, rfl, -, -⟩ := ho6.shape2
               have hq2 := Hqd.out.below hb2
               have r0 := hq2.c0; have r1 := hq2.c1; have r2 := hq2.f0; have r3 := hq2.f1)
            | fail)
          all_goals
            have T := Lib.hid (show SortRel w w1.heap.size rs t (k + 1) (.slice a5 rs.length k5) (.slice a6 zs2.length k6) zs2 ((w2.setCell ⟨w1.heap.size, 0, none⟩ (.slice a5 rs.length k5)).setCell ⟨w1.heap.size, 1, none⟩ (.slice a6 zs2.length k6)) from
              ⟨hlt, hq2.set _ _, Own.mono (own_q (ho5.mono (b := w1.heap.size + 1) (by show w1.heap.size + 1 ≤ wr.heap.size; omega)) (by omega)) (by omega), ho5.ne_of_ge (by show w1.heap.size < wr.heap.size; omega),
                own_q (ho6.mono (b := w1.heap.size + 1) (by show w1.heap.size + 1 ≤ wr.heap.size; omega)) (by omega), Hqv.out, Hpm.out, Hpl.out,
                ((HR.out.bel.trans ((Drawn.below ⟨1, rfl⟩ _).trans (hb2.mono hsz))).setCell (by simp; omega) _).setCell (by simp; omega) _⟩)
            clear hq2 ho5 ho6 hb2
            go_wp2
            go_roundw
            case rel => exact ⟨rfl, k + 1, _, _, _, by go_num, T.out⟩
            case measure => simp [intOf]; omega
        · have hdz : drainZ rs zs = zs := by unfold drainZ; rw [if_pos ((qchk_iff _ _).2 HR.out.qv)]
          have Hdz := Lib.hid hdz
          clear hdz q2 q3
          have Hlr := Lib.hid (show zs.length = rs.length by rw [Hlen.out]; omega)
          go_wp2_with fail
          refine (drain_at a3 _ k3 rs rfl a4 _ k4 zs rfl wr (by unfold maxLen; omega) (by unfold maxLen; omega) HR.out.o1.ints HR.out.o2.ints HR.out.o2.nilcap).mono ?_
          rintro e w2 ⟨v7, rfl, ho7, hb7⟩
          rw [Hdz.out] at ho7
          obtain ⟨a7, k7, rfl, -, -⟩ := ho7.shape2
          have hlb : ((zs.length : Int) != (rs.length : Int)) = false := by rw [Hlr.out]; simp
          have Ho7 := Lib.hid ho7
          have Hb7 := Lib.hid hb7
          have H7i := Lib.hid ho7.ints
          have Hz2 := Lib.hid (Hz.out.below (HR.out.bel.trans (hb7.mono hsz)) (Nat.le_refl _))
          have hs7 := hb7.size
          clear ho7 hb7 q0 q1
          go_wp2
          go_loopw [9, 10, 11] (fun i _ _ wr2 => ∃ j : Nat, 1 ≤ j ∧ i = .int .i64 j ∧ Drawn w2 wr2) (fun i _ _ _ => zs.length - (intOf i).toNat)
          case atStart => exact ⟨1, by omega, rfl, .refl _⟩
          case round =>
            obtain ⟨j, hj1, rfl, nd, rfl⟩ := hrel
            by_cases hjl : j < zs.length
            · obtain ⟨i, rfl⟩ : ∃ i, j = i + 1 := ⟨j - 1, by omega⟩
              obtain ⟨b7, o7, rfl, hc7⟩ := H7i.out (by omega)
              have c1 := hc7 i (by omega)
              have c2 := hc7 (i + 1) hjl
              have m1 := HR.out.qv.rng _ (mem_of_getD (show i < zs.length by omega))
              have m2 := HR.out.qv.rng _ (mem_of_getD hjl)
              rw [isI_iff, lim_rank h0] at m1 m2
              have hpr := (List.pairwise_iff_getElem.1 (HR.out.qv.ord h0)) i (i + 1) (by omega) hjl (by omega)
              have e1 : zs.getD i 0 = zs[i] := by have : i < zs.length := by omega
                                                  simp [List.getD, this]
              have e2 : zs.getD (i + 1) 0 = zs[i + 1] := by simp [List.getD, hjl]
              rw [← e1, ← e2] at hpr
              generalize zs.getD i 0 = p at *
              generalize zs.getD (i + 1) 0 = q at *
              obtain ⟨p, rfl⟩ : ∃ n : Nat, p = n := ⟨p.toNat, by omega⟩
              obtain ⟨q, rfl⟩ : ∃ n : Nat, q = n := ⟨q.toNat, by omega⟩
              have hp : p < rs.length := by omega
              have hq : q < rs.length := by omega
              obtain ⟨bz, oz, rfl, hcz⟩ := Hz2.out h0
              have c3 := hcz p hp
              have c4 := hcz q hq
              rw [prec_iff, Int.toNat_natCast, Int.toNat_natCast] at hpr
              generalize rs.getD p 0 = u at *
              generalize rs.getD q 0 = v at *
              have hw1 : IntKind.i64.wrap ((i : Int) + 1 - 1) = (i : Int) := by rw [IntKind.wrap_i64]; omega
              have hw2 : (0 : Int) ≤ (i : Int) + 1 := by omega
              clear hc7 hcz m1 m2 e1 e2
              rcases (show u < v ∨ (u = v ∧ p < q) from by omega) with h | ⟨rfl, h⟩
              · have d1 : decide (v < u) = false := decide_eq_false (by omega)
                have d2 : (u == v) = false := by rw [beq_eq_false_iff_ne]; omega
                clear hpr
                go_wp2
                go_quiet (fail)
                go_wp2
                go_quiet (fail)
                go_wp2
                go_roundw
                case rel => exact ⟨i + 2, by omega, by go_num, _, rfl⟩
                case measure => simp [intOf]; omega
              · clear hpr
                have d3 : decide (q ≤ p) = false := decide_eq_false (by omega)
                have d4 : decide ((q : Int) ≤ (p : Int)) = false := decide_eq_false (by omega)
                go_wp2
                go_quiet (fail)
                go_wp2
                go_quiet (fail)
                go_wp2
                go_roundw
                case rel => exact ⟨i + 2, by omega, by go_num, _, rfl⟩
                case measure => simp [intOf]; omega
            · go_wp2_with fail
              refine (awake_any _).mono ?_
              rintro e w4 ⟨rfl, hb4⟩
              go_wp2
              go_ret
              exact ⟨rfl, (HR.out.bel.trans (Hb7.out.mono hsz)).trans ((Drawn.below ⟨nd, rfl⟩ _).trans (hb4.mono (by simp; omega)))⟩
    · omega
end Go.Proofs.Ytpegkmancaoeiaa
