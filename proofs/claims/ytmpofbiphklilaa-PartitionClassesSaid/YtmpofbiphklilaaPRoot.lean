/-
  root and link: a forest over the members, and the partition that it stands for.
-/
import Derived.Test.YtmpofbiphklilaaPMem
namespace Go.Proofs.Ytmpofbiphklilaa
open Go.RowKit
set_option linter.unusedVariables false

/-- The forest f stands for the partition q. -/
structure Rep (f q : List Int) : Prop where
  len : f.length = q.length
  lo : ∀ i, i < q.length → 0 ≤ f.getD i 0
  hi : ∀ i, i < q.length → f.getD i 0 ≤ i
  top : ∀ i, i < q.length → f.getD i 0 = i → q.getD i 0 = i
  up : ∀ i, i < q.length → q.getD (f.getD i 0).toNat 0 = q.getD i 0

theorem getD_set (l : List Int) (i j : Nat) (z d : Int) (hi : i < l.length) : (l.set i z).getD j d = if j = i then z else l.getD j d := by
  simp only [List.getD_eq_getElem?_getD, List.getElem?_set]
  by_cases h : i = j
  · subst h; simp [hi]
  · simp [h, Ne.symm h]

theorem Rep.halve {f q : List Int} (h : Rep f q) (x : Nat) (hx : x < q.length) : Rep (f.set x (f.getD (f.getD x 0).toNat 0)) q := by
  have hl := h.len
  have h1 := h.lo x hx
  have h2 := h.hi x hx
  have h3 := h.lo (f.getD x 0).toNat (by omega)
  have h4 := h.hi (f.getD x 0).toNat (by omega)
  refine ⟨by simp [hl], fun i hi => ?_, fun i hi => ?_, fun i hi => ?_, fun i hi => ?_⟩
  all_goals rw [getD_set _ _ _ _ _ (by omega)]
  all_goals by_cases e : i = x
  all_goals simp only [e, if_true, if_false]
  · exact h3
  · exact h.lo i hi
  · omega
  · exact h.hi i hi
  · intro e2
    have e3 : f.getD x 0 = x := by omega
    exact h.top x hx e3
  · exact h.top i hi
  · rw [h.up _ (by omega), h.up _ hx]
  · exact h.up i hi

/-- A partition: each entry is the least member of its class. -/
structure Flat (q : List Int) : Prop where
  lo : ∀ i, i < q.length → 0 ≤ q.getD i 0
  hi : ∀ i, i < q.length → q.getD i 0 ≤ i
  fix : ∀ i, i < q.length → q.getD (q.getD i 0).toNat 0 = q.getD i 0

/-- The classes of two members are one. -/
def joinL (q : List Int) (x y : Nat) : List Int :=
  q.map fun z => if z = max (q.getD x 0) (q.getD y 0) then min (q.getD x 0) (q.getD y 0) else z
theorem length_joinL (q : List Int) (x y : Nat) : (joinL q x y).length = q.length := by simp [joinL]
theorem getD_joinL (q : List Int) (x y i : Nat) (hi : i < q.length) : (joinL q x y).getD i 0 = if q.getD i 0 = max (q.getD x 0) (q.getD y 0) then min (q.getD x 0) (q.getD y 0) else q.getD i 0 := by
  simp [joinL, hi]

theorem Flat.join {q : List Int} (h : Flat q) (x y : Nat) (hx : x < q.length) (hy : y < q.length) : Flat (joinL q x y) := by
  have x1 := h.lo x hx
  have x2 := h.hi x hx
  have x3 := h.fix x hx
  have y1 := h.lo y hy
  have y2 := h.hi y hy
  have y3 := h.fix y hy
  refine ⟨fun i hi => ?_, fun i hi => ?_, fun i hi => ?_⟩
  all_goals rw [length_joinL] at hi
  all_goals have i1 := h.lo i hi
  all_goals have i2 := h.hi i hi
  all_goals have i3 := h.fix i hi
  all_goals rw [getD_joinL _ _ _ _ hi]
  · split <;> omega
  · split <;> omega
  · split
    · rw [getD_joinL _ _ _ _ (by omega)]
      have : q.getD (min (q.getD x 0) (q.getD y 0)).toNat 0 = min (q.getD x 0) (q.getD y 0) := by
        rcases Int.le_total (q.getD x 0) (q.getD y 0) with c | c
        · rw [Int.min_eq_left c]; exact x3
        · rw [Int.min_eq_right c]; exact y3
      rw [this]
      split <;> rfl
    · rw [getD_joinL _ _ _ _ (by omega), i3, if_neg (by assumption)]

theorem Rep.link {f q : List Int} (h : Rep f q) (x y : Nat) (hx : x < q.length) (hy : y < q.length) (hq : Flat q) :
    Rep (f.set (max (q.getD x 0) (q.getD y 0)).toNat (min (q.getD x 0) (q.getD y 0))) (joinL q x y) := by
  have x1 := hq.lo x hx
  have x2 := hq.hi x hx
  have x3 := hq.fix x hx
  have y1 := hq.lo y hy
  have y2 := hq.hi y hy
  have y3 := hq.fix y hy
  have hl := h.len
  have e1 : q.getD (min (q.getD x 0) (q.getD y 0)).toNat 0 = min (q.getD x 0) (q.getD y 0) := by
    rcases Int.le_total (q.getD x 0) (q.getD y 0) with c | c
    · rw [Int.min_eq_left c]; exact x3
    · rw [Int.min_eq_right c]; exact y3
  have e2 : q.getD (max (q.getD x 0) (q.getD y 0)).toNat 0 = max (q.getD x 0) (q.getD y 0) := by
    rcases Int.le_total (q.getD x 0) (q.getD y 0) with c | c
    · rw [Int.max_eq_right c]; exact y3
    · rw [Int.max_eq_left c]; exact x3
  have hj := length_joinL q x y
  generalize ha : min (q.getD x 0) (q.getD y 0) = a at *
  generalize hb : max (q.getD x 0) (q.getD y 0) = b at *
  have gj : ∀ i, i < q.length → (joinL q x y).getD i 0 = if q.getD i 0 = b then a else q.getD i 0 := fun i hi => by rw [getD_joinL _ _ _ _ hi, ha, hb]
  refine ⟨by simp [hl, hj], fun i hi => ?_, fun i hi => ?_, fun i hi => ?_, fun i hi => ?_⟩
  all_goals rw [hj] at hi
  all_goals rw [getD_set _ _ _ _ _ (by omega)]
  all_goals by_cases e : i = b.toNat
  all_goals simp only [e, if_true, if_false]
  · omega
  · exact h.lo i hi
  · omega
  · exact h.hi i hi
  · intro e3
    rw [gj _ (by omega), e2, if_pos rfl]; omega
  · intro e3
    have t := h.top i hi e3
    rw [gj i hi, t, if_neg (by omega)]
  · rw [gj _ (by omega), gj _ (by omega), e1, e2, if_pos rfl]
    split <;> rfl
  · have i1 := h.lo i hi
    have i2 := h.hi i hi
    rw [gj _ (by omega), gj _ hi, h.up i hi]

set_option maxHeartbeats 400000 in
theorem root_any (base g cap : Nat) (f q : List Int) (x : Nat) (r : Int) (w : World) (hqr : q.getD x 0 = r) (hn : f.length ≤ 8192) (hr : Row w base g cap f) (hf : Rep f q) (hx : x < f.length) :
    Calls Try.prog 29 #[.slice (some ⟨g, 0, none⟩) f.length cap, .int .i64 x] w fun e w' =>
      e = .returned (.int .i64 r) ∧ ∃ f', f'.length = f.length ∧ Row w' base g cap f' ∧ Rep f' q ∧ w.grownBy w' (some g) := by
  have Hf := Lib.hid hf
  have Hr := Lib.hid hr
  have Hqr := Lib.hid hqr
  clear hf hr hqr
  obtain ⟨n, hnl⟩ : ∃ n, f.length = n := ⟨_, rfl⟩
  rw [hnl] at hn hx ⊢
  have Hnl := Lib.hid hnl
  clear hnl
  go_enter Try.func29, Try.ntmps29
  go_wp2
  go_loopw [1] (fun i wr => ∃ (k : Nat) (f' : List Int), k < n ∧ i = .int .i64 k ∧ f'.length = n ∧ Row wr base g cap f' ∧ Rep f' q ∧ q.getD k 0 = r ∧ w.grownBy wr (some g)) (fun i _ => (intOf i).toNat)
  case atStart => exact ⟨x, f, hx, rfl, Hnl.out, Hr.out, Hf.out, Hqr.out, World.grownBy.refl _ _⟩
  case round =>
    obtain ⟨k, f', hk, rfl, hl', hrow, hrep, hq, hgr⟩ := hrel
    have Hl := Lib.hid hl'
    have Hq := Lib.hid hq
    have hql := hrep.len
    have c0 := hrow.cell (i := k) (by omega)
    have fz := hrow.free k
    have b1 := hrep.lo k (by omega)
    have b2 := hrep.hi k (by omega)
    have hup := hrep.top k (by omega)
    obtain ⟨y, hy⟩ : ∃ y, f'.getD k 0 = y := ⟨_, rfl⟩
    rw [hy] at c0 b1 b2 hup
    obtain ⟨m, rfl⟩ : ∃ m : Nat, y = m := ⟨y.toNat, by omega⟩
    have c1 := hrow.cell (i := m) (by omega)
    have b3 := hrep.lo m (by omega)
    have b4 := hrep.hi m (by omega)
    have hup2 := hrep.up m (by omega)
    have hup1 := hrep.up k (by omega)
    have hh := hrep.halve k (by omega)
    rw [hy] at hup1 hh
    simp only [Int.toNat_natCast] at hup1 hh
    obtain ⟨z, hz⟩ : ∃ z, f'.getD m 0 = z := ⟨_, rfl⟩
    rw [hz] at c1 b3 b4 hup2 hh
    obtain ⟨j, rfl⟩ : ∃ j : Nat, z = j := ⟨z.toNat, by omega⟩
    simp only [Int.toNat_natCast] at hup2
    have Hh := Lib.hid hh
    have Hrow := Lib.hid hrow
    have Hrep := Lib.hid hrep
    have Hgr := Lib.hid hgr
    have Hup1 := Lib.hid hup1
    have Hup2 := Lib.hid hup2
    have Hup := Lib.hid hup
    clear hl' hq hql hrow hrep hgr hup hup1 hup2 hh hy hz
    by_cases hmk : m = k
    · subst hmk
      clear c1 b3 b4
      have hb : ((m : Int) != (m : Int)) = false := by simp
      go_wp2
      go_ret
      exact ⟨ret_int (by rw [← Hq.out]; exact (Hup.out (by simp)).symm), f', Hl.out, Hrow.out, Hrep.out, Hgr.out⟩
    · have hb : ((m : Int) != (k : Int)) = true := by simp; omega
      go_wp2
      go_roundw
      case rel => exact ⟨j, f'.set k j, by omega, rfl, by rw [List.length_set]; exact Hl.out, Hrow.out.set k j, Hh.out, by rw [Hup2.out, Hup1.out, Hq.out], grown_trans Hgr.out (grown_setCell _ _ _ _)⟩
      case measure => simp [intOf]; omega

set_option maxHeartbeats 400000 in
theorem link_any (base g cap : Nat) (f q : List Int) (x y : Nat) (w : World) (hn : f.length ≤ 8192) (hr : Row w base g cap f) (hf : Rep f q) (hx : x < f.length) (hy : y < f.length) (hq : Flat q) :
    Calls Try.prog 27 #[.slice (some ⟨g, 0, none⟩) f.length cap, .int .i64 x, .int .i64 y] w fun e w' =>
      e = .returned (.tuple #[]) ∧ ∃ f', f'.length = f.length ∧ Row w' base g cap f' ∧ Rep f' (joinL q x y) ∧ w.grownBy w' (some g) := by
  have hql := Lib.hid hf.len
  have x1 := hq.lo x (by rw [← hql.out]; exact hx)
  have x2 := hq.hi x (by rw [← hql.out]; exact hx)
  have y1 := hq.lo y (by rw [← hql.out]; exact hy)
  have y2 := hq.hi y (by rw [← hql.out]; exact hy)
  obtain ⟨rx, hrx⟩ : ∃ r : Nat, q.getD x 0 = r := ⟨(q.getD x 0).toNat, by omega⟩
  obtain ⟨ry, hry⟩ : ∃ r : Nat, q.getD y 0 = r := ⟨(q.getD y 0).toNat, by omega⟩
  rw [hrx] at x1 x2
  rw [hry] at y1 y2
  have Hrx := Lib.hid hrx
  have Hry := Lib.hid hry
  clear hrx hry
  go_enter Try.func27, Try.ntmps27
  go_wp2_with fail
  refine (root_any base g cap f q x rx w Hrx.out hn hr hf hx).mono ?_
  rintro e w1 ⟨rfl, f1, hl1, hr1, hf1, hg1⟩
  have Hl1 := Lib.hid hl1
  have Hr1 := Lib.hid hr1
  have Hf1 := Lib.hid hf1
  clear hr1 hf1
  go_wp2_with fail
  rw [← hl1]
  clear hl1
  refine (root_any base g cap f1 q y ry w1 Hry.out (by rw [Hl1.out]; exact hn) Hr1.out Hf1.out (by rw [Hl1.out]; exact hy)).mono ?_
  rintro e w2 ⟨rfl, f2, hl2, hr2, hf2, hg2⟩
  have Hl2 := Lib.hid hl2
  have Hl := Lib.hid (hl2.trans Hl1.out)
  have Hrep := Lib.hid (hf2.link x y (by rw [← hf2.len, Hl.out]; exact hx) (by rw [← hf2.len, Hl.out]; exact hy) hq)
  have b1 : rx < f1.length := by rw [Hl1.out]; omega
  have b2 : ry < f1.length := by rw [Hl1.out]; omega
  have c1 := hr2.cell (i := rx) (by rw [hl2]; omega)
  have c2 := hr2.cell (i := ry) (by rw [hl2]; omega)
  have z1 := hr2.free rx
  have z2 := hr2.free ry
  generalize f2.getD rx 0 = v1 at c1
  generalize f2.getD ry 0 = v2 at c2
  have Hr2 := Lib.hid hr2
  have Hg := Lib.hid (grown_trans hg1 hg2)
  clear hl2 hr2 hf2 hg1 hg2
  rcases Nat.lt_trichotomy rx ry with h | h | h
  · go_wp2
    go_end0
    exact ⟨rfl, f2.set ry rx, by rw [List.length_set]; exact Hl.out, Hr2.out.set _ _, by simpa only [Hrx.out, Hry.out, show max (rx : Int) (ry : Int) = ry from by omega, show min (rx : Int) (ry : Int) = rx from by omega, Int.toNat_natCast] using Hrep.out, grown_trans Hg.out (grown_setCell _ _ _ _)⟩
  · subst h
    clear c2 z2 y1 y2
    go_wp2
    go_end0
    exact ⟨rfl, f2.set rx rx, by rw [List.length_set]; exact Hl.out, Hr2.out.set _ _, by simpa only [Hrx.out, Hry.out, show max (rx : Int) (rx : Int) = rx from by omega, show min (rx : Int) (rx : Int) = rx from by omega, Int.toNat_natCast] using Hrep.out, grown_trans Hg.out (grown_setCell _ _ _ _)⟩
  · go_wp2
    go_end0
    exact ⟨rfl, f2.set rx ry, by rw [List.length_set]; exact Hl.out, Hr2.out.set _ _, by simpa only [Hrx.out, Hry.out, show max (rx : Int) (ry : Int) = rx from by omega, show min (rx : Int) (ry : Int) = ry from by omega, Int.toNat_natCast] using Hrep.out, grown_trans Hg.out (grown_setCell _ _ _ _)⟩
end Go.Proofs.Ytmpofbiphklilaa
