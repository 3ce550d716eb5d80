/-
  Check: it returns what the plain mathematics says.
-/
import Derived.Test.YtpegkmancaoeiaaWBits
namespace Go.Proofs.Ytpegkmancaoeiaa
open Go.RowKit
set_option linter.unusedVariables false

theorem seen_start (w : World) (o : Obj) : Seen ((w.alloc o).alloc (.cells zeros1024 45)) (w.heap.size + 1) (List.replicate 1024 0) := by
  refine ⟨List.length_replicate .., fun i => ?_, fun i hi => ?_, fun i => ?_⟩
  · rw [List.getD_eq_getElem?_getD, List.getElem?_replicate]; split <;> simp
  · have h : (List.replicate 1024 0).getD i 0 = 0 := by
      rw [List.getD_eq_getElem?_getD, List.getElem?_replicate]; split <;> rfl
    rw [h]
    have e : w.heap.size + 1 = (w.alloc o).heap.size := by simp
    rw [e, World.cell?_alloc_new]
    simp [zeros1024, hi]
  · have e : w.heap.size + 1 = (w.alloc o).heap.size := by simp
    rw [e]
    simp
theorem mem_of_getD {zs : List Int} {k : Nat} (h : k < zs.length) : zs.getD k 0 ∈ zs := by
  rw [List.getD_eq_getElem?_getD, List.getElem?_eq_getElem h]; exact List.getElem_mem h

set_option maxHeartbeats 400000 in
theorem check_big (ra : Option Addr) (rc : Nat) (rs : List Int) (za : Option Addr) (zc : Nat) (zs : List Int) (w : World) (hn : rs.length ≤ maxLen) (hm : zs.length ≤ maxLen) (h : 8192 < rs.length ∨ 8192 < zs.length) :
    Calls Try.prog 9 #[.agg #[.slice ra rs.length rc, .slice za zs.length zc]] w fun e w' => e = .returned (.int .i64 3) ∧ Below w.heap.size w w' := by
  unfold maxLen at hn hm
  by_cases h1 : 8192 < rs.length
  · clear h
    go_enter Try.func9, Try.ntmps9
    go_wp2
    go_ret
    exact ⟨rfl, (Below.refl _ _).alloc (Nat.le_refl _) _⟩
  · have h2 : 8192 < zs.length := by omega
    clear h
    go_enter Try.func9, Try.ntmps9
    go_wp2
    go_ret
    exact ⟨rfl, (Below.refl _ _).alloc (Nat.le_refl _) _⟩

theorem prec_at (a : Option Addr) (c : Nat) (rs : List Int) (x y : Nat) (r : Bool) (hp : prec rs (x : Int) (y : Int) = r) (w : World) (hn : rs.length ≤ 8200) (hz : Ints w a rs) (hx : x < rs.length) (hy : y < rs.length) :
    Calls Try.prog 24 #[.slice a rs.length c, .int .i64 x, .int .i64 y] w fun e w' => e = .returned (.bool r) ∧ Drawn w w' := by
  subst hp
  exact precedes_any a c rs x y w hn hz hx hy

set_option maxHeartbeats 1000000 in
set_option maxRecDepth 100000 in
theorem check_good (ra : Option Addr) (rc : Nat) (rs : List Int) (za : Option Addr) (zc : Nat) (zs : List Int) (w : World) (hn : rs.length ≤ 8192) (hm : zs.length ≤ 8192) (hr : Ints w ra rs) (hz : Ints w za zs) :
    Calls Try.prog 9 #[.agg #[.slice ra rs.length rc, .slice za zs.length zc]] w fun e w' => e = .returned (.int .i64 (qchk rs zs)) ∧ Below w.heap.size w w' := by
  have hsz := seen_zero
  have hs := Lib.hid (qchk_start hn hm)
  have H0 := Lib.hid (seen_start w (.cells #[.slice ra rs.length rc, .slice za zs.length zc] 24))
  have Hr := Lib.hid hr
  have Hz := Lib.hid hz
  clear hr hz
  go_enter Try.func9, Try.ntmps9
  go_wp2
  go_loopw [4, 5, 19] (fun _ _ i wr => ∃ (k : Nat) (ss : List Nat), k ≤ zs.length ∧ i = .int .i64 k ∧ qchk rs zs = qchkN rs zs (zs.length - k) k ∧ Seen wr (w.heap.size + 1) ss ∧ Bits ss (zs.take k) ∧ (∀ y ∈ zs.take k, isI rs y = true) ∧
    wr.cell? ⟨w.heap.size, 0, none⟩ = some (.slice ra rs.length rc) ∧ wr.cell? ⟨w.heap.size, 1, none⟩ = some (.slice za zs.length zc) ∧ Below w.heap.size w wr) (fun _ _ i _ => zs.length - (intOf i).toNat)
  case atStart => exact ⟨0, _, Nat.zero_le _, rfl, hs.out, H0.out, bits_zero, by simp, by simp, by simp, ((Below.refl _ _).alloc (Nat.le_refl _) _).alloc (by simp) _⟩
  case round =>
    obtain ⟨k, ss, hk, rfl, hq0, hseen, hbits, hrng, cb0, cb1, hbl⟩ := hrel
    have Hq := Lib.hid hq0
    have Hseen := Lib.hid hseen
    have Hbits := Lib.hid hbits
    have Hrng := Lib.hid hrng
    have Hbl := Lib.hid hbl
    have Hr' := Lib.hid (Hr.out.below hbl (Nat.le_refl _))
    have Hz' := Lib.hid (Hz.out.below hbl (Nat.le_refl _))
    have hle := lim_le hn
    clear hq0 hrng hbl
    by_cases hlt : k < zs.length
    · obtain ⟨b, off, rfl, hcell⟩ := Hz'.out (by omega)
      have ck := hcell k hlt
      obtain ⟨x, hx⟩ : ∃ x, zs.getD k 0 = x := ⟨_, rfl⟩
      rw [hx] at ck
      have Hx := Lib.hid hx
      have Hc := Lib.hid hcell
      clear hcell hx
      by_cases h1 : isI rs x = false
      · have T := Lib.hid (qchk_rng Hq.out hlt Hx.out h1)
        clear hseen hbits
        go_wp2_with (go_at_call 23; refine (isItem_any _ _ rs _ _ hn).mono ?_; rintro e w' ⟨rfl, rfl⟩)
        go_ret
        exact ⟨ret_int T.out.symm, Hbl.out⟩
      · have h1' : isI rs x = true := by simpa using h1
        have hxr := isI_iff.1 h1'
        obtain ⟨m, rfl⟩ : ∃ m : Nat, x = m := ⟨x.toNat, by omega⟩
        have hm6 : m < 65536 := by omega
        have hq : ((m : Int) / 64) = ((m / 64 : Nat) : Int) := by omega
        have hrr : ((m : Int) % 64) = ((m % 64 : Nat) : Int) := by omega
        have hr2 : m % 64 < 64 := by omega
        have hqq : m / 64 < 1024 := by omega
        have cs := hseen.cell (m / 64) hqq
        have us := hseen.lt (m / 64)
        have fs := hseen.free (m / 64)
        have Hb := Lib.hid (hbits m hm6)
        have Hadd := Lib.hid (hbits.add hseen.len m hm6)
        have bt := bit_test _ (m % 64) us
        obtain ⟨u, hu⟩ : ∃ u, ss.getD (m / 64) 0 = u := ⟨_, rfl⟩
        rw [hu] at cs us bt Hb Hadd
        have ks := kshl (m % 64) hr2
        have hp := two_pow_lt (m % 64) hr2
        obtain ⟨p, hpe⟩ : ∃ p, 2 ^ (m % 64) = p := ⟨_, rfl⟩
        rw [hpe] at ks hp Hadd
        have ko := kor u p us hp
        have Hset := Lib.hid (Hseen.out.set (m / 64) (u ||| p) hqq (or_lt u p us hp))
        have Hpe := Lib.hid hpe
        clear hseen hbits hu hpe hxr
        have hwq : IntKind.i64.wrap ((m / 64 : Nat) : Int) = ((m / 64 : Nat) : Int) := IntWalk.i64_in _ (by omega)
        generalize m / 64 = q at *
        generalize m % 64 = r at *
        cases ht : u.testBit r with
        | true =>
          rw [ht] at bt Hb
          have T := Lib.hid (qchk_dup Hq.out hlt Hx.out h1' (Hb.out.1 rfl))
          clear ht
          go_wp2_with (go_at_call 23; refine (isItem_any _ _ rs _ _ hn).mono ?_; rintro e w' ⟨rfl, rfl⟩)
          go_ret
          exact ⟨ret_int T.out.symm, Hbl.out⟩
        | false =>
          rw [ht] at bt Hb
          have Hnot := Lib.hid (show ¬ (m : Int) ∈ zs.take k from fun h => by have := Hb.out.2 h; cases this)
          clear ht
          have Hrng2 := Lib.hid (show ∀ y ∈ zs.take (k + 1), isI rs y = true from fun y hy => by
            rw [mem_take_succ hlt] at hy
            rcases hy with hy | rfl
            · exact Hrng.out y hy
            · rw [Hx.out]; exact h1')
          have Htk := Lib.hid (show zs.take k ++ [(m : Int)] = zs.take (k + 1) by rw [take_add_one_eq hlt, Hx.out])
          have hfin : ∀ w2, Seen w2 (w.heap.size + 1) (ss.set q (u ||| p)) → True := fun _ _ => trivial
          clear hfin
          by_cases hord : 0 < rs.length ∧ 0 < k
          · obtain ⟨ho1, ho2⟩ := hord
            obtain ⟨j, rfl⟩ : ∃ j, k = j + 1 := ⟨k - 1, by omega⟩
            have cj := Hc.out j (by omega)
            have hjm : zs.getD j 0 ∈ zs.take (j + 1) := by rw [mem_take_succ (by omega)]; exact .inr rfl
            have hji := Hrng.out _ hjm
            rw [isI_iff, lim_rank ho1] at hji
            rw [isI_iff, lim_rank ho1] at h1'
            obtain ⟨y, hy⟩ : ∃ y, zs.getD j 0 = y := ⟨_, rfl⟩
            rw [hy] at cj hji
            obtain ⟨i, rfl⟩ : ∃ i : Nat, y = i := ⟨y.toNat, by omega⟩
            have Hy := Lib.hid hy
            clear hy hjm
            have hi2 : i < rs.length := by omega
            have hm2 : m < rs.length := by omega
            have hI : isI rs (m : Int) = true := isI_iff.2 ⟨by omega, by rw [lim_rank ho1]; omega⟩
            have HI := Lib.hid hI
            clear hI h1' hji
            have hw1 : IntKind.i64.wrap ((j : Int) + 1 - 1) = (j : Int) := by rw [IntKind.wrap_i64]; omega
            cases hpr : prec rs (m : Int) (i : Int) with
            | true =>
              have Hpr := Lib.hid hpr
              have T := Lib.hid (qchk_ord Hq.out hlt Hx.out HI.out Hnot.out ho1 ho2 (by rw [show j + 1 - 1 = j from rfl, Hy.out]; exact Hpr.out))
              clear hpr
              go_wp2_with (go_at_call 23; refine (isItem_any _ _ rs _ _ hn).mono ?_; rw [HI.out]; rintro e w' ⟨rfl, rfl⟩)
              go_quiet ((go_at_call 24; exact quiet_drawn (prec_at _ _ rs m i true Hpr.out _ (by omega) (Hr'.out.drewN _) hm2 hi2)))
              go_wp2
              go_ret
              exact ⟨ret_int T.out.symm, Hbl.out.trans (Drawn.below ⟨_, rfl⟩ _)⟩
            | false =>
              have Hpr := Lib.hid hpr
              have T := Lib.hid (qchk_next Hq.out hlt Hx.out HI.out Hnot.out (fun h => by
                have h3 := h.2.2
                rw [show j + 1 - 1 = j from rfl, Hy.out, Hpr.out] at h3; cases h3))
              clear hpr
              go_wp2_with (go_at_call 23; refine (isItem_any _ _ rs _ _ hn).mono ?_; rw [HI.out]; rintro e w' ⟨rfl, rfl⟩)
              go_quiet ((go_at_call 24; exact quiet_drawn (prec_at _ _ rs m i false Hpr.out _ (by omega) (Hr'.out.drewN _) hm2 hi2)))
              go_wp2
              go_region
              go_wp2
              go_roundw
              case rel => exact ⟨j + 2, _, by omega, by go_num, T.out, Hset.out.drewN _, by rw [← Htk.out]; exact Hadd.out, Hrng2.out, (World.cell?_setCell_other _ _ _ _ (by simp)).trans cb0, (World.cell?_setCell_other _ _ _ _ (by simp)).trans cb1, (Hbl.out.trans (Drawn.below ⟨_, rfl⟩ _)).setCell (by simp) _⟩
              case measure => simp [intOf]; omega
          · have T := Lib.hid (qchk_next Hq.out hlt Hx.out h1' Hnot.out (fun h => hord ⟨h.1, h.2.1⟩))
            by_cases ho : 0 < rs.length
            · have hk0 : k = 0 := by
                rcases Nat.eq_zero_or_pos k with h0 | h0
                · exact h0
                · exact absurd ⟨ho, h0⟩ hord
              have hd : decide (0 < (k : Int)) = false := decide_eq_false (by omega)
              have hd2 : ¬ 0 < k := by omega
              clear hk0 hord
              go_wp2_with (go_at_call 23; refine (isItem_any _ _ rs _ _ hn).mono ?_; rw [h1']; rintro e w' ⟨rfl, rfl⟩)
              go_quiet (fail)
              go_wp2
              go_region
              go_wp2
              go_roundw
              case rel => exact ⟨_, _, hlt, by go_num, T.out, Hset.out.drewN _, by rw [← Htk.out]; exact Hadd.out, Hrng2.out, (World.cell?_setCell_other _ _ _ _ (by simp)).trans cb0, (World.cell?_setCell_other _ _ _ _ (by simp)).trans cb1, (Hbl.out.trans (Drawn.below ⟨_, rfl⟩ _)).setCell (by simp) _⟩
              case measure => simp [intOf]; omega
            · clear hord
              go_wp2_with (go_at_call 23; refine (isItem_any _ _ rs _ _ hn).mono ?_; rw [h1']; rintro e w' ⟨rfl, rfl⟩)
              go_quiet (fail)
              go_wp2
              go_region
              go_wp2
              go_roundw
              case rel => exact ⟨_, _, hlt, by go_num, T.out, Hset.out.drewN _, by rw [← Htk.out]; exact Hadd.out, Hrng2.out, (World.cell?_setCell_other _ _ _ _ (by simp)).trans cb0, (World.cell?_setCell_other _ _ _ _ (by simp)).trans cb1, (Hbl.out.trans (Drawn.below ⟨_, rfl⟩ _)).setCell (by simp) _⟩
              case measure => simp [intOf]; omega
    · have T := Lib.hid (qchk_end Hq.out hlt)
      clear hseen hbits
      go_wp2
      go_ret
      exact ⟨ret_int T.out.symm, Hbl.out⟩
end Go.Proofs.Ytpegkmancaoeiaa
