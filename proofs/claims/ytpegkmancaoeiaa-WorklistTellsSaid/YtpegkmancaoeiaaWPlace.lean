/-
  place: where an item is inserted (sort.Search over a closure of its own).
-/
import Derived.Test.YtpegkmancaoeiaaWCopy
namespace Go.Proofs.Ytpegkmancaoeiaa
open Go.RowKit Go.Shelf Go.Lib Go.Sort
set_option linter.unusedVariables false

theorem count_lt (p : Nat) : ∀ n, p ≤ n → (List.range n).countP (fun i => decide (i < p)) = p
  | 0, h => by simp; omega
  | n + 1, h => by
    rw [List.range_succ, List.countP_append, List.countP_singleton]
    by_cases c : p ≤ n
    · rw [count_lt p n c, if_neg (by simp; omega)]; omega
    · have e : p = n + 1 := by omega
      subst e
      rw [if_pos (by simp)]
      have : (List.range n).countP (fun i => decide (i < n + 1)) = n := by
        have h2 := List.countP_eq_length (p := fun i => decide (i < n + 1)) (l := List.range n)
        rw [h2.2 (fun a ha => by simp at ha ⊢; omega), List.length_range]
      omega
theorem pl_count {rs zs : List Int} {x : Int} (hv : QV rs zs) (hx : ¬ x ∈ zs) (hr : 0 < rs.length) :
    (List.range zs.length).countP (fun i => !prec rs x (zs.getD i 0)) = pl rs zs x := by
  have h : (List.range zs.length).countP (fun i => !prec rs x (zs.getD i 0)) = (List.range zs.length).countP (fun i => decide (i < pl rs zs x)) := by
    apply List.countP_congr
    intro i hi
    rw [List.mem_range] at hi
    have e : zs.getD i 0 = zs[i] := by simp [List.getD, hi]
    have := (pl_spec hv hx hr i hi).1
    rw [e]
    cases hp : prec rs x zs[i] with
    | true => rw [hp] at this; have := this.1 rfl; simp; omega
    | false => rw [hp] at this; simp at this ⊢; exact this
  rw [h, count_lt _ _ (pl_le rs zs x)]

set_option maxHeartbeats 2000000 in
theorem closure_any (bq bx : Nat) (ra : Option Addr) (rc : Nat) (rs : List Int) (za : Option Addr) (zc : Nat) (zs : List Int) (x : Nat) (i : Nat) (W : World) (hn : rs.length ≤ 8192) (hm : zs.length ≤ 8192) (hi : i < zs.length) (hx : x < rs.length)
    (hrng : ∀ y ∈ zs, isI rs y = true)
    (c0 : W.cell? ⟨bq, 0, none⟩ = some (.slice ra rs.length rc)) (c1 : W.cell? ⟨bq, 1, none⟩ = some (.slice za zs.length zc)) (cx : W.cell? ⟨bx, 0, none⟩ = some (.int .i64 x)) (hr : Ints W ra rs) (hz : Ints W za zs) :
    Calls Try.prog 36 (#[.int .i64 i] ++ #[.pointer (some ⟨bq, 0, none⟩), .pointer (some ⟨bx, 0, none⟩)]) W fun e w' => e = .returned (.bool (prec rs (x : Int) (zs.getD i 0))) ∧ ∃ q, w' = W.drewN q := by
  obtain ⟨b, off, rfl, hcell⟩ := hz (by omega)
  have ck := hcell i hi
  have hmem := hrng _ (mem_of_getD hi)
  rw [isI_iff, lim_rank (by omega)] at hmem
  obtain ⟨y, hy⟩ : ∃ y, zs.getD i 0 = y := ⟨_, rfl⟩
  rw [hy] at ck hmem ⊢
  obtain ⟨m, rfl⟩ : ∃ m : Nat, y = m := ⟨y.toNat, by omega⟩
  obtain ⟨r, hp⟩ : ∃ r, prec rs (x : Int) (m : Int) = r := ⟨_, rfl⟩
  rw [hp]
  have Hp := Lib.hid hp
  have Hr := Lib.hid hr
  have hm2 : m < rs.length := by omega
  clear hcell hy hp hr hrng hz hmem
  go_enter Try.func36, Try.ntmps36
  go_wp2
  go_quiet ((go_at_call 24; exact quiet_drawn (prec_at _ _ rs x m r Hp.out _ (by omega) (Hr.out.drewN _) hx hm2)))
  go_wp2
  go_ret
  exact ⟨rfl, _, rfl⟩

set_option maxHeartbeats 2000000 in
theorem place_any (ra : Option Addr) (rc : Nat) (rs : List Int) (za : Option Addr) (zc : Nat) (zs : List Int) (x : Int) (w : World) (hv : QV rs zs) (hi : isI rs x = true) (hx : ¬ x ∈ zs) (hr : Ints w ra rs) (hz : Ints w za zs) :
    Calls Try.prog 31 #[.agg #[.slice ra rs.length rc, .slice za zs.length zc], .int .i64 x] w fun e w' => e = .returned (.int .i64 (pl rs zs x : Nat)) ∧ Below w.heap.size w w' := by
  have h1 := hv.rl
  have h2 := hv.zl
  by_cases h0 : 0 < rs.length
  · rw [isI_iff, lim_rank h0] at hi
    obtain ⟨m, rfl⟩ : ∃ m : Nat, x = m := ⟨x.toNat, by omega⟩
    have hm2 : m < rs.length := by omega
    obtain ⟨W0, hW0⟩ : ∃ W0, W0 = (w.alloc (.cells #[.slice ra rs.length rc, .slice za zs.length zc] 24)).alloc (.cells #[.int .i64 m] 3) := ⟨_, rfl⟩
    have hsize : W0.heap.size = w.heap.size + 1 + 1 := by rw [hW0]; simp
    have c0 : W0.cell? ⟨w.heap.size, 0, none⟩ = some (.slice ra rs.length rc) := by rw [hW0]; simp
    have c1 : W0.cell? ⟨w.heap.size, 1, none⟩ = some (.slice za zs.length zc) := by rw [hW0]; simp
    have cx : W0.cell? ⟨w.heap.size + 1, 0, none⟩ = some (.int .i64 m) := by rw [hW0]; simp
    have hB0 : Below w.heap.size w W0 := by rw [hW0]; exact ((Below.refl _ w).alloc (Nat.le_refl _) _).alloc (by simp) _
    have hr0 : Ints W0 ra rs := hr.below hB0 (Nat.le_refl _)
    have hz0 : Ints W0 za zs := hz.below hB0 (Nat.le_refl _)
    have eg : ∀ args w, (callFunc 36 args).run Try.prog w = .ok (.enter 36 args) w := enters_of Try.func36 (by kernel_rfl) rfl
    have hS := Any.sort_Search Try.search 36 #[.pointer (some ⟨w.heap.size, 0, none⟩), .pointer (some ⟨w.heap.size + 1, 0, none⟩)] zs.length (fun i => prec rs (m : Int) (zs.getD i 0)) W0 eg (by omega)
      (fun q os i hi => (closure_any w.heap.size (w.heap.size + 1) ra rc rs za zc zs m i _ h1 h2 hi hm2 hv.rng (cell_grown (by simp [hsize]; omega) c0 q os) (cell_grown (by simp [hsize]; omega) c1 q os) (cell_grown (by simp [hsize]) cx q os)
        (hr0.below (below_grown_sl W0.heap.size W0 q os (Nat.le_refl _)) (Nat.le_refl _)) (hz0.below (below_grown_sl W0.heap.size W0 q os (Nat.le_refl _)) (Nat.le_refl _))).mono
        fun _ _ ⟨he, q, hq⟩ => ⟨he, q, #[], by rw [hq, grow_empty]⟩)
      (fun a b hab hb h => by
        have ea : zs.getD a 0 = zs[a] := by have : a < zs.length := by omega
                                            simp [List.getD, this]
        have eb : zs.getD b 0 = zs[b] := by simp [List.getD, hb]
        rw [ea] at h
        rw [eb]
        exact (pl_spec hv hx h0 b hb).1.2 (Nat.le_trans ((pl_spec hv hx h0 a (by omega)).1.1 h) hab))
    rw [pl_count hv hx h0] at hS
    change Calls Try.prog 35 _ _ _ at hS
    have HS := Lib.hid hS
    clear hr hz hr0 hz0 c0 c1 cx hS hi
    generalize pl rs zs (m : Int) = p at *
    go_enter Try.func31, Try.ntmps31
    go_wp2_with (go_at_call 35; rw [← hW0]; refine HS.out.mono ?_; rintro e w' ⟨rfl, q, os, rfl⟩)
    go_ret
    refine ⟨rfl, ?_⟩
    first | exact hB0.trans (below_grown_sl w.heap.size W0 q os (by omega)) | (rw [← hW0]; exact hB0.trans (below_grown_sl w.heap.size W0 q os (by omega)))
  · have e := Lib.hid (show pl rs zs x = zs.length by unfold pl; rw [if_neg h0])
    clear hr hz hi hx hv
    go_enter Try.func31, Try.ntmps31
    go_wp2
    go_ret
    exact ⟨ret_int (by rw [e.out]), ((Below.refl _ w).alloc (Nat.le_refl _) _).alloc (by simp) _⟩
end Go.Proofs.Ytpegkmancaoeiaa
