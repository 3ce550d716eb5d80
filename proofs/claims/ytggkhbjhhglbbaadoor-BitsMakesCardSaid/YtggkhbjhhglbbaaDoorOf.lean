/-
  Of: the set of a list of numbers.
-/
import Derived.Test.YtggkhbjhhglbbaaDoorWith
namespace Go.Proofs.YtggkhbjhhglbbaaDoor
open Go.RowKit Go.WideShapes
set_option linter.unusedVariables false

/-- May all numbers be elements? -/
def elemB (x : Int) : Bool := decide (0 ≤ x) && decide (x < 65536)
def elemAll (l : List Int) : Bool := l.all elemB
/-- How many words the first k numbers want. -/
def want (l : List Int) : Nat → Nat
  | 0 => 0
  | k + 1 => max (want l k) ((l.getD k 0).toNat / 64 + 1)
theorem want_le (l : List Int) (h : ∀ k, k < l.length → (l.getD k 0) < 65536) (k : Nat) (hk : k ≤ l.length) : want l k ≤ 1024 := by
  induction k with
  | zero => exact Nat.zero_le _
  | succ k ih =>
    have := h k (by omega)
    have := ih (by omega)
    unfold want
    omega
theorem want_at (l : List Int) (n k : Nat) (h : k < n) : (l.getD k 0).toNat / 64 < want l n := by
  induction n with
  | zero => omega
  | succ n ih =>
    unfold want
    by_cases e : k = n
    · subst e; omega
    · have := ih (by omega); omega
/-- The set behind the first k numbers. -/
def ofTo (l : List Int) (n : Nat) : Nat → List Nat
  | 0 => List.replicate n 0
  | k + 1 => let x := (l.getD k 0).toNat; (ofTo l n k).set (x / 64) ((ofTo l n k).getD (x / 64) 0 ||| 2 ^ (x % 64))
theorem length_ofTo (l : List Int) (n k : Nat) : (ofTo l n k).length = n := by
  induction k with
  | zero => simp [ofTo]
  | succ k ih => simp [ofTo, ih]
theorem wf_ofTo (l : List Int) (n k : Nat) : Wf (ofTo l n k) := by
  induction k with
  | zero => intro i; simp only [ofTo, List.getD_eq_getElem?_getD, List.getElem?_replicate]; split <;> simp
  | succ k ih =>
    intro i
    simp only [ofTo, List.getD_eq_getElem?_getD, List.getElem?_set]
    split
    · split
      · rw [Option.getD_some]
        have := ih ((l.getD k 0).toNat / 64)
        exact or_lt _ _ (by simpa [List.getD_eq_getElem?_getD] using this) (two_pow_lt _ (by omega))
      · simp
    · have := ih i
      simpa [List.getD_eq_getElem?_getD] using this

set_option maxHeartbeats 1600000 in
theorem of_bad (a : Option Addr) (c : Nat) (l : List Int) (w : World) (hn : l.length ≤ 100000) (hz : Ints w a l) (hbad : elemAll l = false) :
    Calls Tryd.prog 32 #[.slice a l.length c] w fun e w' => e = .returned (.tuple #[.slice none 0 0, .int .i64 4]) ∧ w = w' := by
  have Hbad := Lib.hid hbad
  clear hbad
  go_enter Tryd.func32, Tryd.ntmps32
  go_wp2
  go_loop [4, 6, 12] (fun n _ i => ∃ k m : Nat, k ≤ l.length ∧ i = .int .i64 k ∧ n = .int .i64 m ∧ m ≤ 1024 ∧ ∀ j, j < k → elemB (l.getD j 0) = true) (fun _ _ i => l.length - (intOf i).toNat)
  case atStart => exact ⟨0, 0, Nat.zero_le _, rfl, rfl, by omega, fun j hj => absurd hj (by omega)⟩
  case round =>
    obtain ⟨k, m, hk, rfl, rfl, hm, hall⟩ := hrel
    have Hall := Lib.hid hall
    clear hall
    by_cases hlt : k < l.length
    · obtain ⟨b, off, rfl, hc⟩ := hz (by omega)
      have ck := hc k hlt
      obtain ⟨x, hx⟩ : ∃ x, l.getD k 0 = x := ⟨_, rfl⟩
      rw [hx] at ck
      have Hx := Lib.hid hx
      clear hc hx
      by_cases hb : elemB x = true
      · have Hb := Lib.hid hb
        have hbb : (decide ((0 : Int) ≤ x) && decide ((x : Int) < 65536)) = true := hb
        have hx1 : 0 ≤ x := by simp at hbb; omega
        have hx2 : x < 65536 := by simp at hbb; omega
        clear hb
        obtain ⟨n, rfl⟩ : ∃ n : Nat, x = n := ⟨x.toNat, by omega⟩
        have hq : ((n : Int) / 64) = ((n / 64 : Nat) : Int) := by omega
        have hq2 : n / 64 < 1024 := by omega
        generalize n / 64 = q at *
        rcases Nat.lt_trichotomy m (q + 1) with h | h | h
        · go_wp2_with (go_at_call 46; refine (isElem_any _ _).mono ?_; rintro e w' ⟨rfl, rfl⟩)
          go_round
          case rel =>
            refine ⟨k + 1, q + 1, by omega, by go_num, by go_num, by omega, fun j hj => ?_⟩
            by_cases e : j = k
            · rw [e, Hx.out]; exact Hb.out
            · exact Hall.out j (by omega)
          case measure => simp [intOf]; omega
        · have h1 : (m : Int) ≤ q + 1 := by omega
          have h2 : (q : Int) + 1 ≤ m := by omega
          clear h
          go_wp2_with (go_at_call 46; refine (isElem_any _ _).mono ?_; rintro e w' ⟨rfl, rfl⟩)
          all_goals
            go_round
            case rel =>
              refine ⟨k + 1, q + 1, by omega, by go_num, by go_num, by omega, fun j hj => ?_⟩
              by_cases e : j = k
              · rw [e, Hx.out]; exact Hb.out
              · exact Hall.out j (by omega)
            case measure => simp [intOf]; omega
        · go_wp2_with (go_at_call 46; refine (isElem_any _ _).mono ?_; rintro e w' ⟨rfl, rfl⟩)
          go_round
          case rel =>
            refine ⟨k + 1, m, by omega, by go_num, rfl, by omega, fun j hj => ?_⟩
            by_cases e : j = k
            · rw [e, Hx.out]; exact Hb.out
            · exact Hall.out j (by omega)
          case measure => simp [intOf]; omega
      · have hb2 : (decide ((0 : Int) ≤ x) && decide ((x : Int) < 65536)) = false := by simpa [elemB] using hb
        obtain ⟨t, ht⟩ : ∃ t, (decide ((0 : Int) ≤ x) && decide ((x : Int) < 65536)) = t := ⟨_, rfl⟩
        rw [ht] at hb2
        have Ht := Lib.hid ht
        clear hb ht
        go_wp2_with fail
        refine (isElem_any _ _).mono ?_
        rw [Ht.out, hb2]
        rintro e w' ⟨rfl, rfl⟩
        go_wp2
        go_ret2
        exact ⟨rfl, rfl⟩
    · exfalso
      have : elemAll l = true := by
        unfold elemAll
        rw [List.all_eq_true]
        intro x hx
        obtain ⟨j, hj, rfl⟩ := List.mem_iff_getElem.1 hx
        have := Hall.out j (by omega)
        simpa [hj] using this
      rw [Hbad.out] at this
      cases this

set_option maxHeartbeats 1600000 in
theorem of_good (a : Option Addr) (c : Nat) (l : List Int) (w : World) (hn : l.length ≤ 100000) (hz : Ints w a l) (hok : ∀ k, k < l.length → 0 ≤ l.getD k 0 ∧ l.getD k 0 < 65536) :
    Calls Tryd.prog 32 #[.slice a l.length c] w fun e w' => ∃ g, e = .returned (.tuple #[.slice (some ⟨g, 0, none⟩) (want l l.length) (want l l.length), .int .i64 0]) ∧
      RowW w' w.heap.size g (want l l.length) (ofTo l (want l l.length) l.length) ∧ Below w.heap.size w w' := by
  obtain ⟨i0, hi0, hz0, hz1, hz2⟩ := info_parts word_info
  have Hok := Lib.hid hok
  have Hz := Lib.hid hz
  clear hok hz
  obtain ⟨N, hN⟩ : ∃ N, want l l.length = N := ⟨_, rfl⟩
  have HN := Lib.hid hN
  rw [hN]
  have hN1 : N ≤ 1024 := by rw [← hN]; exact want_le l (fun k hk => (Hok.out k hk).2) _ (Nat.le_refl _)
  clear hN
  go_enter Tryd.func32, Tryd.ntmps32
  go_wp2
  go_loop [4, 6, 12] (fun n _ i => ∃ k m : Nat, k ≤ l.length ∧ i = .int .i64 k ∧ n = .int .i64 m ∧ m = want l k) (fun _ _ i => l.length - (intOf i).toNat)
  case atStart => exact ⟨0, 0, Nat.zero_le _, rfl, rfl, rfl⟩
  case round =>
    obtain ⟨k, m, hk, rfl, rfl, hm⟩ := hrel
    have Hm := Lib.hid hm
    clear hm
    by_cases hlt : k < l.length
    · obtain ⟨b, off, rfl, hc⟩ := Hz.out (by omega)
      have ck := hc k hlt
      obtain ⟨hx1, hx2⟩ := Hok.out k hlt
      have hm1 : m ≤ 1024 := by rw [Hm.out]; exact want_le l (fun k hk => (Hok.out k hk).2) _ (by omega)
      have Hw := Lib.hid (show want l (k + 1) = max (want l k) ((l.getD k 0).toNat / 64 + 1) from rfl)
      rw [← Hm.out] at Hw
      obtain ⟨n, hx⟩ : ∃ n : Nat, l.getD k 0 = n := ⟨(l.getD k 0).toNat, by omega⟩
      rw [hx] at ck hx1 hx2 Hw
      rw [Int.toNat_natCast] at Hw
      clear hc hx
      have hb : (decide ((0 : Int) ≤ n) && decide ((n : Int) < 65536)) = true := by simp; omega
      have hq : ((n : Int) / 64) = ((n / 64 : Nat) : Int) := by omega
      have hq2 : n / 64 < 1024 := by omega
      generalize n / 64 = q at *
      rcases Nat.lt_trichotomy m (q + 1) with h | h | h
      · go_wp2_with (go_at_call 46; refine (isElem_any _ _).mono ?_; rintro e w' ⟨rfl, rfl⟩)
        go_round
        case rel => exact ⟨k + 1, q + 1, by omega, by go_num, by go_num, by rw [Hw.out]; omega⟩
        case measure => simp [intOf]; omega
      · have h1 : (m : Int) ≤ q + 1 := by omega
        have h2 : (q : Int) + 1 ≤ m := by omega
        clear h
        go_wp2_with (go_at_call 46; refine (isElem_any _ _).mono ?_; rintro e w' ⟨rfl, rfl⟩)
        all_goals
          go_round
          case rel => exact ⟨k + 1, q + 1, by omega, by go_num, by go_num, by rw [Hw.out]; omega⟩
          case measure => simp [intOf]; omega
      · go_wp2_with (go_at_call 46; refine (isElem_any _ _).mono ?_; rintro e w' ⟨rfl, rfl⟩)
        go_round
        case rel => exact ⟨k + 1, m, by omega, by go_num, rfl, by rw [Hw.out]; omega⟩
        case measure => simp [intOf]; omega
    · obtain rfl : m = N := by rw [Hm.out, ← HN.out, show k = l.length from by omega]
      clear Hm
      go_wp2_with (at_make; refine wpList_make_full _ rfl _ _ 23 rfl w.heap.size 54 i0 (.int .u64 0) 1 Tryd.underlying23 hi0 hz0 hz1 _ _ _ _ m rfl rfl rfl rfl ?_ ?_ ?_ ?_)
      · omega
      · unfold maxLen; omega
      intro w1 hown hg
      have Hb := Lib.hid ((Below.refl _ _).grown hg (Nat.le_refl _) (fun k hk => by cases hk) : Below w.heap.size w w1)
      have Hrow := Lib.hid (show RowW w1 w.heap.size w.heap.size m (ofTo l m 0) by
        have e : wv (ofTo l m 0) = (madeCells #[Value.int .u64 0] m).toList := by
          rw [toList_madeCells_one]; simp [wv, ofTo]
        unfold RowW
        rw [length_ofTo, e]
        exact hown)
      clear hown hg
      go_wp2
      go_loopw [9, 29] (fun _ i wr => ∃ k : Nat, k ≤ l.length ∧ i = .int .i64 k ∧ RowW wr w.heap.size w.heap.size m (ofTo l m k) ∧ Below w.heap.size w wr) (fun _ i _ => l.length - (intOf i).toNat)
      case atStart => exact ⟨0, Nat.zero_le _, rfl, Hrow.out, Hb.out⟩
      case round =>
        obtain ⟨k, hk, rfl, hr, hbl⟩ := hrel
        have Hr := Lib.hid hr
        have Hb1 := Lib.hid hbl
        by_cases hlt : k < l.length
        · obtain ⟨b, off, rfl, hc⟩ := Hz.out (by omega)
          have ck := (hbl.cell (p := ⟨b, off + k, none⟩) (World.block_lt_of_cell? w _ (hc k hlt))).trans (hc k hlt)
          obtain ⟨hx1, hx2⟩ := Hok.out k hlt
          have hqm := want_at l l.length k hlt
          rw [HN.out] at hqm
          have Hs := Lib.hid (show ofTo l m (k + 1) = (ofTo l m k).set ((l.getD k 0).toNat / 64) ((ofTo l m k).getD ((l.getD k 0).toNat / 64) 0 ||| 2 ^ ((l.getD k 0).toNat % 64)) from rfl)
          obtain ⟨n, hx⟩ : ∃ n : Nat, l.getD k 0 = n := ⟨(l.getD k 0).toNat, by omega⟩
          rw [hx] at ck hx1 hx2 hqm Hs
          rw [Int.toNat_natCast] at hqm Hs
          clear hc hx hbl
          have cr := hr.cell (i := n / 64) (by rw [length_ofTo]; exact hqm)
          have fz := hr.free (n / 64)
          have hy := wf_ofTo l m k (n / 64)
          have hq : ((n : Int) / 64) = ((n / 64 : Nat) : Int) := by omega
          have hr1 : ((n : Int) % 64) = ((n % 64 : Nat) : Int) := by omega
          have htm : (n : Int).tmod 64 = ((n % 64 : Nat) : Int) := by rw [Int.tmod_eq_emod_of_nonneg (by omega)]; exact hr1
          have hr2 : n % 64 < 64 := by omega
          generalize (ofTo l m k).getD (n / 64) 0 = y at *
          generalize n / 64 = q at *
          generalize n % 64 = r at *
          have hp := two_pow_lt r hr2
          have ks := kshl r hr2
          have hwq : IntKind.i64.wrap (q : Int) = (q : Int) := IntWalk.i64_in _ (by omega)
          obtain ⟨p, hpe⟩ : ∃ p, 2 ^ r = p := ⟨_, rfl⟩
          rw [hpe] at ks Hs
          have ko := kor y p hy (by rw [← hpe]; exact hp)
          clear hp hpe hr
          go_wp2
          refine wp_region_tail 10 (by kernel_rfl) (by kernel_rfl) ?_
          simp only [List.take_succ_cons, List.take_zero, List.drop_succ_cons, List.drop_zero, World.drew_is_drewN]
          repeat still_step
          refine wpStill_nil ?_
          go_wp2
          go_roundw
          case rel => exact ⟨k + 1, by omega, by go_num, by rw [Hs.out]; exact (Hr.out.drewN 1).set _ _, (Hb1.out.trans (Drawn.below ⟨1, rfl⟩ _)).setCell (Nat.le_refl _) _⟩
          case measure => simp [intOf]; omega
        · obtain rfl : k = l.length := by omega
          clear hr hbl
          go_wp2
          go_ret2
          exact ⟨_, rfl, Hr.out, Hb1.out⟩
end Go.Proofs.YtggkhbjhhglbbaaDoor
