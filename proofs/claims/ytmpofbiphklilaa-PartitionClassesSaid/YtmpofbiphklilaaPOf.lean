/-
  Of: the pairs are linked one by one in the forest, and the forest is flattened.
-/
import Derived.Test.YtmpofbiphklilaaPNew
namespace Go.Proofs.Ytmpofbiphklilaa
open Go.RowKit
set_option linter.unusedVariables false

/-- A slice value reads as a list of pairs of ints. -/
def Pairs (w : World) (a : Option Addr) (ps : List (Int × Int)) : Prop :=
  0 < ps.length → ∃ b off, a = some ⟨b, off, none⟩ ∧ ∀ i, i < ps.length → w.cell? ⟨b, off + i * 2, none⟩ = some (.int .i64 (ps.getD i (0, 0)).1) ∧ w.cell? ⟨b, off + i * 2 + 1, none⟩ = some (.int .i64 (ps.getD i (0, 0)).2)
/-- .. and lies below block B. -/
def PairsIn (B : Nat) (w : World) (a : Option Addr) (ps : List (Int × Int)) : Prop :=
  0 < ps.length → ∃ b off, a = some ⟨b, off, none⟩ ∧ b < B ∧ ∀ i, i < ps.length → w.cell? ⟨b, off + i * 2, none⟩ = some (.int .i64 (ps.getD i (0, 0)).1) ∧ w.cell? ⟨b, off + i * 2 + 1, none⟩ = some (.int .i64 (ps.getD i (0, 0)).2)

/-- All ends are numbers below n. -/
def inB (n : Nat) (ps : List (Int × Int)) : Bool := ps.all fun e => isB n e.1 && isB n e.2
/-- The pairs joined one by one. -/
def joinAll (q : List Int) (ps : List (Int × Int)) : List Int := ps.foldl (fun q e => joinL q e.1.toNat e.2.toNat) q
theorem length_joinAll (q : List Int) (ps : List (Int × Int)) : (joinAll q ps).length = q.length := by
  induction ps generalizing q with
  | nil => rfl
  | cons e r ih => show (joinAll (joinL q _ _) r).length = _; rw [ih, length_joinL]
theorem inB_take (n : Nat) (ps : List (Int × Int)) (k : Nat) (hk : k < ps.length) : inB n (ps.take (k + 1)) = (inB n (ps.take k) && (isB n (ps.getD k (0, 0)).1 && isB n (ps.getD k (0, 0)).2)) := by
  unfold inB
  rw [List.take_succ_eq_append_getElem hk, List.all_append]
  simp [hk]
theorem joinAll_take (q : List Int) (ps : List (Int × Int)) (k : Nat) (hk : k < ps.length) : joinAll q (ps.take (k + 1)) = joinL (joinAll q (ps.take k)) (ps.getD k (0, 0)).1.toNat (ps.getD k (0, 0)).2.toNat := by
  unfold joinAll
  rw [List.take_succ_eq_append_getElem hk, List.foldl_append]
  simp [hk]
theorem inB_le (n : Nat) (ps : List (Int × Int)) (k : Nat) (h : inB n (ps.take k) = false) : inB n ps = false := by
  rw [Bool.eq_false_iff] at h ⊢
  intro h2
  apply h
  unfold inB at h2 ⊢
  rw [List.all_eq_true] at h2 ⊢
  exact fun x hx => h2 x (List.mem_of_mem_take hx)
theorem Flat.joinAll {n : Nat} {ps : List (Int × Int)} (h : inB n ps = true) {q : List Int} (hq : Flat q) (hl : q.length = n) : Flat (joinAll q ps) := by
  induction ps generalizing q with
  | nil => exact hq
  | cons e r ih =>
    simp only [inB, List.all_cons, Bool.and_eq_true] at h
    obtain ⟨⟨h1, h2⟩, h3⟩ := h
    rw [isB_iff] at h1 h2
    exact ih h3 (hq.join _ _ (by omega) (by omega)) (by rw [length_joinL, hl])

/-- What the flattening leaves behind k steps. -/
def mixL (f q : List Int) (k : Nat) : List Int := q.take k ++ f.drop k
theorem length_mixL (f q : List Int) (k : Nat) (h : f.length = q.length) : (mixL f q k).length = q.length := by simp [mixL]; omega
theorem getD_mixL (f q : List Int) (k i : Nat) (h : f.length = q.length) (hi : i < q.length) : (mixL f q k).getD i 0 = if i < k then q.getD i 0 else f.getD i 0 := by
  unfold mixL
  simp only [List.getD_eq_getElem?_getD, List.getElem?_append, List.length_take, List.getElem?_take, List.getElem?_drop]
  by_cases c : i < k
  · rw [if_pos (by omega), if_pos c, if_pos c]
  · rw [if_neg (by omega), if_neg c]
    congr 2; omega
theorem mixL_succ (f q : List Int) (k : Nat) (h : f.length = q.length) (hk : k < q.length) : (mixL f q k).set k (q.getD k 0) = mixL f q (k + 1) := by
  apply List.ext_getElem
  · simp [mixL]; omega
  · intro i h1 h2
    have h3 : i < q.length := by rw [length_mixL _ _ _ h] at h2; exact h2
    have e1 := getD_mixL f q (k + 1) i h h3
    have e0 := getD_mixL f q k i h h3
    have e2 := getD_set (mixL f q k) k i (q.getD k 0) 0 (by rw [length_mixL _ _ _ h]; exact hk)
    rw [List.getD_eq_getElem?_getD, List.getElem?_eq_getElem h1, Option.getD_some] at e2
    rw [List.getD_eq_getElem?_getD, List.getElem?_eq_getElem h2, Option.getD_some] at e1
    rw [e1, e2, e0]
    by_cases c : i = k
    · subst c; simp
    · rw [if_neg c]
      by_cases c2 : i < k
      · rw [if_pos c2, if_pos (by omega)]
      · rw [if_neg c2, if_neg (by omega)]
theorem mixL_end (f q : List Int) (h : f.length = q.length) : mixL f q q.length = q := by
  rw [mixL, List.take_length, List.drop_of_length_le (by omega), List.append_nil]
theorem mixL_zero (f q : List Int) : mixL f q 0 = f := by simp [mixL]
/-- One step: what is read at the parent is the class's least member already. -/
theorem mixL_step {f q : List Int} (hf : Rep f q) (k : Nat) (hk : k < q.length) : (mixL f q k).getD (f.getD k 0).toNat 0 = q.getD k 0 := by
  have h1 := hf.lo k hk
  have h2 := hf.hi k hk
  rw [getD_mixL f q k _ hf.len (by omega)]
  by_cases c : (f.getD k 0).toNat < k
  · rw [if_pos c, hf.up k hk]
  · rw [if_neg c]
    have e : f.getD k 0 = k := by omega
    rw [hf.top k hk e, e, Int.toNat_natCast, e]

set_option maxHeartbeats 400000 in
theorem of_bad (n : Int) (a : Option Addr) (m c : Nat) (w : World) (h : n < 0 ∨ 8192 < n) :
    Calls Try.prog 19 #[.int .i64 n, .slice a m c] w fun e w' => e = .returned (.tuple #[.slice none 0 0, .int .i64 4]) ∧ w = w' := by
  go_enter Try.func19, Try.ntmps19
  go_wp2_with (go_at_call 21; refine (new_bad _ _ h).mono ?_; rintro e w' ⟨rfl, rfl⟩)
  go_ret2
  exact ⟨rfl, rfl⟩

theorem link_at (base g cap n : Nat) (f q : List Int) (x y : Nat) (w : World) (hl : f.length = n) (hn : n ≤ 8192) (hr : Row w base g cap f) (hf : Rep f q) (hx : x < n) (hy : y < n) (hq : Flat q) :
    Calls Try.prog 27 #[.slice (some ⟨g, 0, none⟩) n cap, .int .i64 x, .int .i64 y] w fun e w' =>
      e = .returned (.tuple #[]) ∧ ∃ f', f'.length = n ∧ Row w' base g cap f' ∧ Rep f' (joinL q x y) ∧ w.grownBy w' (some g) := by
  subst hl
  exact link_any base g cap f q x y w hn hr hf hx hy hq

set_option maxHeartbeats 800000 in
theorem of_good (n : Nat) (a : Option Addr) (c : Nat) (ps : List (Int × Int)) (w : World) (hn : n ≤ 8192) (hps : ps.length ≤ maxLen) (hp : PairsIn w.heap.size w a ps) :
    Calls Try.prog 19 #[.int .i64 n, .slice a ps.length c] w fun e w' => Below w.heap.size w w' ∧
      ((inB n ps = true ∧ ∃ g, e = .returned (.tuple #[.slice (some ⟨g, 0, none⟩) n n, .int .i64 0]) ∧ Row w' w.heap.size g n (joinAll (iota n) ps)) ∨
       (inB n ps = false ∧ e = .returned (.tuple #[.slice none 0 0, .int .i64 4]))) := by
  unfold maxLen at hps
  go_enter Try.func19, Try.ntmps19
  go_wp2_with fail
  refine (new_good n w hn).mono ?_
  rintro e w1 ⟨rfl, hr1, hb1⟩
  have Hr1 := Lib.hid hr1
  have Hb1 := Lib.hid hb1
  have hsz := hr1.lt.2
  clear hr1 hb1
  go_wp2
  go_loopw [9, 22] (fun _ i wr => ∃ (k : Nat) (f : List Int), k ≤ ps.length ∧ i = .int .i64 k ∧ f.length = n ∧ Row wr w.heap.size w.heap.size n f ∧ Rep f (joinAll (iota n) (ps.take k)) ∧ inB n (ps.take k) = true ∧ Below w.heap.size w wr) (fun _ i _ => ps.length - (intOf i).toNat)
  case atStart => exact ⟨0, iota n, Nat.zero_le _, rfl, length_iota n, Hr1.out, rep_iota n, rfl, Hb1.out⟩
  case round =>
    obtain ⟨k, f, hk, rfl, hl, hr, hrep, hin, hb⟩ := hrel
    have Hl := Lib.hid hl
    have Hr := Lib.hid hr
    have Hrep := Lib.hid hrep
    have Hin := Lib.hid hin
    have Hb := Lib.hid hb
    have hB := hb.size
    clear hl hr hrep hin
    by_cases hlt : k < ps.length
    · obtain ⟨b, off, rfl, hbB, hc⟩ := hp (by omega)
      have hit := Lib.hid (inB_take n ps k hlt)
      have hjt := Lib.hid (joinAll_take (iota n) ps k hlt)
      have c1 := (hb.cell (p := ⟨b, off + k * 2, none⟩) hbB).trans (hc k hlt).1
      have c2 := (hb.cell (p := ⟨b, off + k * 2 + 1, none⟩) hbB).trans (hc k hlt).2
      clear hb hc
      generalize (ps.getD k (0, 0)).1 = x at *
      generalize (ps.getD k (0, 0)).2 = y at *
      by_cases hx : isB n x = true
      · by_cases hy : isB n y = true
        · obtain ⟨hx1, hx2⟩ := isB_iff.1 hx
          obtain ⟨hy1, hy2⟩ := isB_iff.1 hy
          obtain ⟨x, rfl⟩ : ∃ m : Nat, x = m := ⟨x.toNat, by omega⟩
          obtain ⟨y, rfl⟩ : ∃ m : Nat, y = m := ⟨y.toNat, by omega⟩
          simp only [Int.toNat_natCast] at hjt
          have hflat := Lib.hid (Flat.joinAll Hin.out (flat_iota n) (length_iota n))
          have hin' := Lib.hid (show inB n (ps.take (k + 1)) = true by rw [hit.out, Hin.out, hx, hy]; rfl)
          go_wp2_with (go_at_call 25; refine (isNumber_any _ _ _ _ _).mono ?_; rintro e w' ⟨rfl, rfl⟩)
          refine (link_at w.heap.size w.heap.size n n f (joinAll (iota n) (ps.take k)) x y _ Hl.out hn (Hr.out.alloc _) Hrep.out (by omega) (by omega) hflat.out).mono ?_
          rintro e w2 ⟨rfl, f2, hl2, hr2, hf2, hg2⟩
          have Hl2 := Lib.hid hl2
          have Hr2 := Lib.hid hr2
          have Hf2 := Lib.hid (show Rep f2 (joinAll (iota n) (ps.take (k + 1))) by rw [hjt.out]; exact hf2)
          have Hb2 := Lib.hid ((Hb.out.alloc hB _).grown hg2 (by simp; omega) (fun k hk => by cases hk; exact Nat.le_refl _))
          clear hl2 hr2 hf2 hg2
          go_wp2
          go_roundw
          case rel => exact ⟨k + 1, f2, by omega, by go_num, Hl2.out, Hr2.out, Hf2.out, hin'.out, Hb2.out⟩
          case measure => simp [intOf]; omega
        · simp only [Bool.not_eq_true] at hy
          have hin' := Lib.hid (inB_le n ps (k + 1) (by rw [hit.out, hy]; simp))
          go_wp2_with (go_at_call 25; refine (isNumber_any _ _ _ _ _).mono ?_; rintro e w' ⟨rfl, rfl⟩)
          go_ret2
          exact ⟨Hb.out.alloc hB _, .inr ⟨hin'.out, rfl⟩⟩
      · simp only [Bool.not_eq_true] at hx
        have hin' := Lib.hid (inB_le n ps (k + 1) (by rw [hit.out, hx]; simp))
        go_wp2_with (go_at_call 25; refine (isNumber_any _ _ _ _ _).mono ?_; rintro e w' ⟨rfl, rfl⟩)
        go_ret2
        exact ⟨Hb.out.alloc hB _, .inr ⟨hin'.out, rfl⟩⟩
    · have e : ps.take k = ps := List.take_of_length_le (by omega)
      have Hin2 := Lib.hid (show inB n ps = true by rw [← e]; exact Hin.out)
      have Hrep2 := Lib.hid (show Rep f (joinAll (iota n) ps) by rw [← e]; exact Hrep.out)
      have Hql := Lib.hid (show (joinAll (iota n) ps).length = n by rw [length_joinAll, length_iota])
      clear e hb Hrep Hin
      obtain ⟨q, hqe⟩ : ∃ q, joinAll (iota n) ps = q := ⟨_, rfl⟩
      rw [hqe] at Hrep2 Hql
      have Hqe := Lib.hid hqe
      clear hqe
      have Hfq := Lib.hid (Hl.out.trans Hql.out.symm)
      go_wp2
      go_loopw [10, 11, 47] (fun _ _ i wx => ∃ (j : Nat), j ≤ n ∧ i = .int .i64 j ∧ Row wx w.heap.size w.heap.size n (mixL f q j) ∧ Below w.heap.size w wx) (fun _ _ i _ => n - (intOf i).toNat)
      case atStart => exact ⟨0, Nat.zero_le _, rfl, by rw [mixL_zero]; exact Hr.out, Hb.out⟩
      case round =>
        obtain ⟨j, hj, rfl, hrx, hbx⟩ := hrel
        have hlm := Lib.hid ((length_mixL f q j Hfq.out).trans Hql.out)
        by_cases hjl : j < n
        · have h1 := Hrep2.out.lo j (by rw [Hql.out]; exact hjl)
          have h2 := Hrep2.out.hi j (by rw [Hql.out]; exact hjl)
          have c1 := hrx.cell (i := j) (by rw [hlm.out]; exact hjl)
          rw [getD_mixL f q j j Hfq.out (by rw [Hql.out]; exact hjl), if_neg (by omega)] at c1
          have hst := Lib.hid (mixL_step Hrep2.out j (by rw [Hql.out]; exact hjl))
          obtain ⟨y, hy⟩ : ∃ y : Nat, f.getD j 0 = y := ⟨(f.getD j 0).toNat, by omega⟩
          rw [hy] at h1 h2 c1 hst
          simp only [Int.toNat_natCast] at hst
          have c2 := hrx.cell (i := y) (by rw [hlm.out]; omega)
          rw [hst.out] at c2
          have hsu := Lib.hid (mixL_succ f q j Hfq.out (by rw [Hql.out]; exact hjl))
          obtain ⟨z, hz⟩ : ∃ z, q.getD j 0 = z := ⟨_, rfl⟩
          rw [hz] at c2 hsu
          have fz := hrx.free j
          have Hrx := Lib.hid hrx
          have Hbx := Lib.hid hbx
          clear hrx hbx hy hz
          by_cases e : y = j
          · have e2 : (y : Int) = z := by
              rw [e] at c2 c1 ⊢
              rw [c1] at c2
              simpa using c2
            subst e
            subst e2
            clear c2
            go_wp2
            go_roundw
            case rel => exact ⟨y + 1, by omega, by go_num, by rw [← hsu.out]; exact Hrx.out.set _ _, Hbx.out.setCell (Nat.le_refl _) _⟩
            case measure => simp [intOf]; omega
          · go_wp2
            go_roundw
            case rel => exact ⟨j + 1, by omega, by go_num, by rw [← hsu.out]; exact Hrx.out.set _ _, Hbx.out.setCell (Nat.le_refl _) _⟩
            case measure => simp [intOf]; omega
        · have e : n = j := by omega
          have Hrx := Lib.hid hrx
          have Hbx := Lib.hid hbx
          have hen := Lib.hid (mixL_end f q Hfq.out)
          clear hrx hbx hj
          subst e
          go_wp2
          go_ret2
          exact ⟨Hbx.out, .inl ⟨Hin2.out, _, rfl, by rw [Hqe.out, ← hen.out, Hql.out]; exact Hrx.out⟩⟩
end Go.Proofs.Ytmpofbiphklilaa
