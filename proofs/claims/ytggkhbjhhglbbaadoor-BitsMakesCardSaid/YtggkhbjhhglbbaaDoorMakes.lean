/-
  BitsMakes: the walk of the law.
-/
import Derived.Test.YtggkhbjhhglbbaaDoorSorted
import Derived.Test.YtggkhbjhhglbbaaDoorTells
namespace Go.Proofs.YtggkhbjhhglbbaaDoor
open Go.RowKit Go.WideShapes
set_option linter.unusedVariables false

theorem mem_ofTo (l : List Int) (N : Nat) : ∀ k, (∀ j, j < k → (l.getD j 0).toNat / 64 < N) → ∀ i, mem (ofTo l N k) i = true ↔ ∃ j, j < k ∧ (l.getD j 0).toNat = i := by
  intro k
  induction k with
  | zero =>
    intro _ i
    constructor
    · intro h
      exfalso
      unfold mem ofTo at h
      simp only [List.getD_eq_getElem?_getD, List.getElem?_replicate] at h
      split at h <;> simp at h
    · rintro ⟨j, hj, _⟩; omega
  | succ k ih =>
    intro hN i
    have ih := ih (fun j hj => hN j (by omega)) i
    have hk := hN k (by omega)
    have key : mem (ofTo l N (k + 1)) i = true ↔ mem (ofTo l N k) i = true ∨ (l.getD k 0).toNat = i := by
      have e : ofTo l N (k + 1) = (ofTo l N k).set ((l.getD k 0).toNat / 64) ((ofTo l N k).getD ((l.getD k 0).toNat / 64) 0 ||| 2 ^ ((l.getD k 0).toNat % 64)) := rfl
      rw [e]
      generalize (l.getD k 0).toNat = x at *
      unfold mem
      rw [getD_set _ _ _ _ (by rw [length_ofTo]; exact hk)]
      by_cases c : i / 64 = x / 64
      · rw [if_pos c, Nat.testBit_or, Nat.testBit_two_pow, c, Bool.or_eq_true, decide_eq_true_eq]
        constructor
        · rintro (h | h)
          · exact .inl h
          · exact .inr (by omega)
        · rintro (h | h)
          · exact .inl h
          · exact .inr (by omega)
      · rw [if_neg c]
        constructor
        · exact .inl
        · rintro (h | h)
          · exact h
          · exfalso; exact c (by rw [h])
    rw [key, ih]
    constructor
    · rintro (⟨j, hj, h⟩ | h)
      · exact ⟨j, by omega, h⟩
      · exact ⟨k, by omega, h⟩
    · rintro ⟨j, hj, h⟩
      by_cases e : j = k
      · subst e; exact .inr h
      · exact .inl ⟨j, by omega, h⟩
theorem want_top (l : List Int) (k : Nat) : want l k = 0 ∨ ∃ j, j < k ∧ (l.getD j 0).toNat / 64 + 1 = want l k := by
  induction k with
  | zero => exact .inl rfl
  | succ k ih =>
    right
    have e : want l (k + 1) = max (want l k) ((l.getD k 0).toNat / 64 + 1) := rfl
    rcases Nat.lt_or_ge (want l k) ((l.getD k 0).toNat / 64 + 1) with c | c
    · exact ⟨k, by omega, by omega⟩
    · rcases ih with h | ⟨j, hj, h⟩
      · omega
      · exact ⟨j, by omega, by omega⟩
theorem setOf_ofTo {M K : List Nat} (h : ∀ x, x ∈ K ↔ x ∈ M) : SetOf (ofTo (asInts M) (want (asInts M) M.length) M.length) K := by
  have hm := mem_ofTo (asInts M) (want (asInts M) M.length) M.length (fun j hj => want_at _ _ _ hj)
  refine ⟨wf_ofTo _ _ _, ?_, fun i => ?_⟩
  · rcases want_top (asInts M) M.length with h0 | ⟨j, hj, h1⟩
    · exact .inl (by rw [length_ofTo, h0])
    · right
      rw [length_ofTo]
      intro h2
      have := (hm ((asInts M).getD j 0).toNat).2 ⟨j, hj, rfl⟩
      unfold mem at this
      rw [show ((asInts M).getD j 0).toNat / 64 = want (asInts M) M.length - 1 from by omega, h2] at this
      simp at this
  · rw [hm, h]
    constructor
    · rintro ⟨j, hj, h1⟩
      rw [getD_asInts] at h1
      rw [← h1]
      exact getD_mem hj
    · intro h1
      obtain ⟨j, hj, e⟩ := mem_getD h1
      exact ⟨j, hj, by rw [getD_asInts]; simpa using e⟩
theorem elems_setOf {us K : List Nat} (h : SetOf us K) (hK : Asc K) : elems us = K := asc_ext (asc_elems us) hK fun i => by rw [mem_elems, h.mem]

theorem rsorted_open (a : Option Addr) (c n : Nat) (M : List Nat) (w : World) (hl : M.length = n) (hn : n ≤ 300) (hbd : ∀ y ∈ M, y < 65536) (hz : Ints w a (asInts M)) :
    Calls Tryd.prog 34 #[.slice a n c] w fun e w' => ∃ al cl K, e = .returned (.slice al K.length cl) ∧ Ints w' al (asInts K) ∧ Asc K ∧ (∀ x, x ∈ K ↔ x ∈ M) ∧ K.length ≤ n ∧ Below w.heap.size w w' := by
  refine (rsorted_any a c n M w hl hn hbd hz).mono ?_
  rintro e w' ⟨v, K, rfl, hown, h1, h2, h3, hb⟩
  obtain ⟨al, cl, rfl, hi⟩ := hown.shape
  exact ⟨al, cl, K, by rw [length_asInts], hi, h1, h2, h3, hb⟩

theorem elemB_no {x : Int} (h : elemB x = false) : x < 0 ∨ 65536 ≤ x := by
  unfold elemB at h
  rcases Int.lt_or_le x 0 with c | c
  · exact .inl c
  · right
    rcases Int.lt_or_le x 65536 with d | d
    · simp [c, d] at h
    · exact d
theorem elemB_yes {x : Int} (h : elemB x = true) : 0 ≤ x ∧ x < 65536 := by
  unfold elemB at h
  simpa using h
theorem elemAll_at {l : List Int} (h : ∀ j, j < l.length → elemB (l.getD j 0) = true) : elemAll l = true := by
  unfold elemAll
  rw [List.all_eq_true]
  intro x hx
  obtain ⟨j, hj, rfl⟩ := intMem.1 hx
  exact h j hj
theorem relem_int (x : Int) (w : World) : Calls Tryd.prog 31 #[.int .i64 x] w fun e w' => e = .returned (.bool (elemB x)) ∧ w = w' := by
  cases h : elemB x with
  | false => exact relem_no x w (elemB_no h)
  | true =>
    obtain ⟨h1, h2⟩ := elemB_yes h
    obtain ⟨m, rfl⟩ : ∃ m : Nat, x = m := ⟨x.toNat, by omega⟩
    exact relem_yes m w (by omega)

set_option maxHeartbeats 3200000 in
set_option maxRecDepth 100000 in
theorem makes_bad (a : Option Addr) (c : Nat) (zs : List Int) (w : World) (hn : zs.length ≤ 300) (hz : Ints w a zs) (hbad : elemAll zs = false) (hT : Tz w) :
    Calls Tryd.prog 5 #[.slice a zs.length c] w fun e w' => e = .returned (.bool true) ∧ Below w.heap.size w w' := by
  have Hz := Lib.hid hz
  have HT := Lib.hid hT
  have Hbad := Lib.hid hbad
  clear hz hT hbad
  go_enter Tryd.func5, Tryd.ntmps5
  go_wp2
  go_loop [3] (fun i => ∃ k : Nat, k ≤ zs.length ∧ i = .int .i64 k ∧ ∀ j, j < k → elemB (zs.getD j 0) = true) (fun i => zs.length - (intOf i).toNat)
  case atStart => exact ⟨0, Nat.zero_le _, rfl, fun j hj => absurd hj (by omega)⟩
  case round =>
    obtain ⟨k, hk, rfl, hall⟩ := hrel
    have Hall := Lib.hid hall
    clear hall
    by_cases hlt : k < zs.length
    · obtain ⟨bl, off, rfl, hc⟩ := Hz.out (by omega)
      have ck := hc k hlt
      obtain ⟨x, hx⟩ : ∃ x, zs.getD k 0 = x := ⟨_, rfl⟩
      rw [hx] at ck
      have Hx := Lib.hid hx
      clear hc hx
      rcases Bool.eq_false_or_eq_true (elemB x) with he | he
      · have He := Lib.hid he
        clear he
        go_wp2_with fail
        refine (relem_int x _).mono ?_
        rw [He.out]
        rintro e w' ⟨rfl, rfl⟩
        go_wp2_with fail
        go_round
        case rel =>
          refine ⟨k + 1, by omega, by go_num, fun j hj => ?_⟩
          by_cases e : j = k
          · rw [e, Hx.out]; exact He.out
          · exact Hall.out j (by omega)
        case measure => simp [intOf]; omega
      · have He := Lib.hid he
        clear he
        go_wp2_with fail
        refine (relem_int x _).mono ?_
        rw [He.out]
        rintro e w' ⟨rfl, rfl⟩
        go_wp2_with fail
        refine (of_bad _ c zs w (by omega) Hz.out Hbad.out).mono ?_
        rintro e w' ⟨rfl, rfl⟩
        go_wp2_with fail
        refine (awake_any _ HT.out).mono ?_
        rintro e wz ⟨rfl, hbz⟩
        go_wp2_with fail
        go_ret
        exact ⟨rfl, hbz⟩
    · exfalso
      have := elemAll_at fun j hj => Hall.out j (by omega)
      rw [Hbad.out] at this
      cases this

set_option maxHeartbeats 3200000 in
set_option maxRecDepth 100000 in
theorem makes_good (a : Option Addr) (c : Nat) (M : List Nat) (n : Nat) (w : World) (hl : M.length = n) (hn : n ≤ 300) (hz : Ints w a (asInts M)) (hbd : ∀ y ∈ M, y < 65536) (hT : Tz w) :
    Calls Tryd.prog 5 #[.slice a n c] w fun e w' => e = .returned (.bool true) ∧ Below w.heap.size w w' := by
  have Hz := Lib.hid hz
  have HT := Lib.hid hT
  have Hl := Lib.hid hl
  have Hbd := Lib.hid hbd
  have Hof := Lib.hid (of_good a c (asInts M) w (by rw [length_asInts]; omega) hz (fun k hk => by
    rw [length_asInts] at hk
    rw [getD_asInts]
    have := hbd _ (getD_mem hk)
    omega))
  have hwl := want_le (asInts M) (fun k hk => by
    rw [length_asInts] at hk
    rw [getD_asInts]
    have := hbd _ (getD_mem hk)
    omega) M.length (by rw [length_asInts]; omega)
  have Hset := Lib.hid (fun K (h : ∀ x, x ∈ K ↔ x ∈ M) => setOf_ofTo h)
  have Hlen := Lib.hid (length_ofTo (asInts M) (want (asInts M) M.length) M.length)
  have Hwf := Lib.hid (wf_ofTo (asInts M) (want (asInts M) M.length) M.length)
  rw [length_asInts] at Hof
  generalize ofTo (asInts M) (want (asInts M) M.length) M.length = us at *
  obtain ⟨N, hN⟩ : ∃ N, want (asInts M) M.length = N := ⟨_, rfl⟩
  rw [hN] at Hof hwl Hlen
  rw [hl] at Hof
  clear hz hT hl hbd hN
  go_enter Tryd.func5, Tryd.ntmps5
  go_wp2
  go_loop [3] (fun i => ∃ k : Nat, k ≤ n ∧ i = .int .i64 k) (fun i => n - (intOf i).toNat)
  case atStart => exact ⟨0, Nat.zero_le _, rfl⟩
  case round =>
    obtain ⟨k, hk, rfl⟩ := hrel
    by_cases hlt : k < n
    · obtain ⟨bl, off, rfl, hc⟩ := Hz.out (by rw [length_asInts, Hl.out]; omega)
      have ck := hc k (by rw [length_asInts, Hl.out]; exact hlt)
      rw [getD_asInts] at ck
      have hx := Hbd.out _ (getD_mem (l := M) (i := k) (by rw [Hl.out]; exact hlt))
      generalize M.getD k 0 = x at *
      clear hc
      go_wp2_with fail
      refine (relem_yes x _ hx).mono ?_
      rintro e w' ⟨rfl, rfl⟩
      go_wp2_with fail
      go_round
      case rel => exact ⟨k + 1, by omega, by go_num⟩
      case measure => simp [intOf]; omega
    · go_wp2_with fail
      refine Hof.out.mono ?_
      rintro e w1 ⟨g, rfl, hr, hb1⟩
      have hgood : Good w1 (some ⟨g, 0, none⟩) N us := RowW.good hr (by rw [Hlen.out]; omega) Hwf.out
      have G1 := Lib.hid hgood
      have Z1 := Lib.hid (Hz.out.below hb1 (Nat.le_refl _))
      have T1 := Lib.hid (HT.out.below hb1 (Nat.le_refl _))
      have B1 := Lib.hid hb1
      clear hr hb1 hgood
      go_wp2_with fail
      refine (rsorted_open a c n M w1 Hl.out hn Hbd.out Z1.out).mono ?_
      rintro e w2 ⟨al, cl, K, rfl, hi, hasc, hmem, hKl, hb2⟩
      have SK := Lib.hid (Hset.out K hmem)
      have HE := Lib.hid (elems_setOf SK.out hasc)
      have Hi := Lib.hid hi
      have Hasc := Lib.hid hasc
      have Hmem := Lib.hid hmem
      have G2 := Lib.hid (G1.out.below hb2 (Nat.le_refl _))
      have Z2 := Lib.hid (Z1.out.below hb2 (Nat.le_refl _))
      have T2 := Lib.hid (T1.out.below hb2 (Nat.le_refl _))
      have B2 := Lib.hid (B1.out.trans (hb2.mono B1.out.size))
      clear hi hasc hmem hb2
      go_wp2_with fail
      refine (rmake_any al cl K.length K w2 rfl (by omega) Hasc.out (fun y hy => by have := Hbd.out y ((Hmem.out y).1 hy); omega) Hi.out).mono ?_
      rintro e w3 ⟨v3, ms, rfl, hown3, hset3, hb3⟩
      obtain rfl := hset3.unique SK.out
      have hls := Hlen.out
      obtain ⟨a3, c3, rfl, hg3⟩ := hown3.good (by omega) hset3.wf
      have M3 := Lib.hid hg3
      have G3 := Lib.hid (G2.out.below hb3 (Nat.le_refl _))
      have Z3 := Lib.hid (Z2.out.below hb3 (Nat.le_refl _))
      have T3 := Lib.hid (T2.out.below hb3 (Nat.le_refl _))
      have B3 := Lib.hid (B2.out.trans (hb3.mono B2.out.size))
      clear hown3 hset3 hb3 hg3
      subst hls
      go_wp2_with fail
      refine (requal_self G3.out M3.out).mono ?_
      rintro e w4 ⟨rfl, hdn⟩
      have hbn := hdn.below w3.heap.size
      have G4 := Lib.hid (G3.out.below hbn (Nat.le_refl _))
      have Z4 := Lib.hid (Z3.out.below hbn (Nat.le_refl _))
      have T4 := Lib.hid (T3.out.below hbn (Nat.le_refl _))
      have B4 := Lib.hid (B3.out.trans (hbn.mono B3.out.size))
      clear hdn hbn
      go_wp2_with fail
      refine (list_open (zs := asInts K) (n := K.length) G4.out T4.out (by rw [HE.out]) (length_asInts K)).mono ?_
      rintro e w5 ⟨a5, c5, rfl, hi5, hb5⟩
      have I5 := Lib.hid hi5
      have Z5 := Lib.hid (Z4.out.below hb5 (Nat.le_refl _))
      have T5 := Lib.hid (T4.out.below hb5 (Nat.le_refl _))
      have B5 := Lib.hid (B4.out.trans (hb5.mono B4.out.size))
      clear hi5 hb5
      go_wp2_with fail
      refine (rsorted_open a c n M w5 Hl.out hn Hbd.out Z5.out).mono ?_
      rintro e w6 ⟨a6, c6, K6, rfl, hi6, hasc6, hmem6, _, hb6⟩
      obtain rfl : K6 = K := asc_ext hasc6 Hasc.out fun x => by rw [hmem6, Hmem.out]
      have I6 := Lib.hid hi6
      have I5' := Lib.hid (I5.out.below hb6 (Nat.le_refl _))
      have T6 := Lib.hid (T5.out.below hb6 (Nat.le_refl _))
      have B6 := Lib.hid (B5.out.trans (hb6.mono B5.out.size))
      have Hself := Lib.hid (requalInts_self a5 c5 (asInts K6) a6 c6 w6 (by rw [length_asInts]; omega) I5'.out I6.out)
      rw [length_asInts] at Hself
      clear hi6 hasc6 hmem6 hb6
      go_wp2_with fail
      refine Hself.out.mono ?_
      rintro e w7 ⟨rfl, hdn⟩
      have hbn := hdn.below w6.heap.size
      have T7 := Lib.hid (T6.out.below hbn (Nat.le_refl _))
      have B7 := Lib.hid (B6.out.trans (hbn.mono B6.out.size))
      clear hdn hbn
      go_wp2_with fail
      refine (awake_any _ T7.out).mono ?_
      rintro e wz ⟨rfl, hbz⟩
      go_wp2_with fail
      go_ret
      exact ⟨rfl, B7.out.trans (hbz.mono B7.out.size)⟩

set_option maxHeartbeats 800000 in
theorem makes_any (a : Option Addr) (c : Nat) (zs : List Int) (w : World) (hn : zs.length ≤ maxLen) (hz : Ints w a zs) (hT : Tz w) :
    Calls Tryd.prog 5 #[.slice a zs.length c] w fun e w' => e = .returned (.bool true) ∧ Below w.heap.size w w' := by
  by_cases hs : zs.length ≤ 300
  · cases he : elemAll zs with
    | false => exact makes_bad a c zs w hs hz he hT
    | true =>
      have hall : ∀ x ∈ zs, 0 ≤ x ∧ x < 65536 := fun x hx => by
        unfold elemAll at he
        exact elemB_yes (List.all_eq_true.1 he x hx)
      have hM : asInts (zs.map Int.toNat) = zs := by
        unfold asInts
        rw [List.map_map]
        conv => rhs; rw [← List.map_id zs]
        refine List.map_congr_left fun x hx => ?_
        have := hall x hx
        simp; omega
      refine makes_good a c (zs.map Int.toNat) zs.length w (by simp) hs (by rw [hM]; exact hz) (fun y hy => ?_) hT
      obtain ⟨x, hx, rfl⟩ := List.mem_map.1 hy
      have := hall x hx
      omega
  · have HT := Lib.hid hT
    unfold maxLen at hn
    have c1 : 300 < zs.length := by omega
    clear hz hT hs
    go_enter Tryd.func5, Tryd.ntmps5
    go_wp2_with (go_at_call 10; refine (awake_any _ HT.out).mono ?_; rintro e w' ⟨rfl, hb⟩)
    go_ret
    exact ⟨rfl, hb⟩
end Go.Proofs.YtggkhbjhhglbbaaDoor
