/-
  (search).dominators: the immediate dominators, by number.
-/
import Derived.Test.YtcmliokkamgcdaaDClone
namespace Go.Proofs.Ytcmliokkamgcdaa
open Go.RowKit
set_option linter.unusedVariables false

/-- A list of numbers, as a function. -/
def dn (l : List Int) (j : Nat) : Nat := (l.getD j 0).toNat
/-- The list before the round i of the outer loop. -/
structure IL (k : Nat) (F : Nat → Nat → Prop) (p : Nat → Nat) (i : Nat) (l : List Int) : Prop where
  len : l.length = k
  zero : l.getD 0 0 = -1
  nat : ∀ j, 0 < j → j < k → l.getD j 0 = (dn l j : Int)
  isD : IsD F (dn l) i
  par : ∀ j, i ≤ j → 0 < j → j < k → dn l j = p j
/-- The list within the round i. -/
structure IW (k : Nat) (F : Nat → Nat → Prop) (p s : Nat → Nat) (i : Nat) (l : List Int) : Prop where
  len : l.length = k
  zero : l.getD 0 0 = -1
  nat : ∀ j, 0 < j → j < k → l.getD j 0 = (dn l j : Int)
  isD : IsD F (dn l) i
  wlk : Wlk F p s i (dn l i)
  par : ∀ j, i < j → j < k → dn l j = p j
section
variable {k : Nat} {F : Nat → Nat → Prop} {p s : Nat → Nat} {i : Nat} {l : List Int}
theorem IL.enter (h : IL k F p i l) (h0 : 0 < i) (hi : i < k) : IW k F p s i l :=
  ⟨h.len, h.zero, h.nat, h.isD, by rw [h.par i (Nat.le_refl _) h0 hi]; exact Wlk.start i, fun j a b => h.par j (by omega) (by omega) b⟩
theorem dn_set {z : Int} {j : Nat} (h : j ≠ i) : dn (l.set i z) j = dn l j := by
  unfold dn; rw [List.getD_eq_getElem?_getD, List.getElem?_set_ne (Ne.symm h), ← List.getD_eq_getElem?_getD]
theorem IsD.congr {D D' : Nat → Nat} {m : Nat} (h : IsD F D m) (e : ∀ j, j < m → D' j = D j) : IsD F D' m := fun j a b => by rw [e j b]; exact h j a b
theorem IW.step (t : Tr k F p) (h : IW k F p s i l) (h0 : 0 < i) (hi : i < k) (g : s i < dn l i) : 0 < dn l i ∧ dn l i < i ∧ IW k F p s i (l.set i (l.getD (dn l i) 0)) ∧ dn (l.set i (l.getD (dn l i) 0)) i < dn l i := by
  have lp := t.lt i h0 hi
  have le := h.wlk.le
  have e0 : 0 < dn l i := by omega
  have ei : dn l i < i := by omega
  have hs := h.wlk.step t h0 hi h.isD g
  have hlen := h.len
  have self : dn (l.set i (l.getD (dn l i) 0)) i = dn l (dn l i) := by
    unfold dn; rw [List.getD_eq_getElem?_getD, List.getElem?_set_self (by omega)]; rfl
  refine ⟨e0, ei, ⟨by rw [List.length_set]; exact h.len, ?_, fun j a b => ?_, h.isD.congr (fun j b => dn_set (by omega)), by rw [self]; exact hs, fun j a b => by rw [dn_set (by omega)]; exact h.par j a b⟩, by rw [self]; exact (h.isD _ e0 ei).1⟩
  · rw [List.getD_eq_getElem?_getD, List.getElem?_set_ne (by omega), ← List.getD_eq_getElem?_getD]; exact h.zero
  · by_cases c : j = i
    · subst c
      rw [self, ← h.nat _ e0 (by omega), List.getD_eq_getElem?_getD, List.getElem?_set_self (by omega)]; rfl
    · rw [dn_set c, List.getD_eq_getElem?_getD, List.getElem?_set_ne (Ne.symm c), ← List.getD_eq_getElem?_getD]; exact h.nat j a b
theorem IW.leave (t : Tr k F p) (c : Semi k F p s) (h : IW k F p s i l) (h0 : 0 < i) (hi : i < k) (g : dn l i ≤ s i) : IL k F p (i + 1) l :=
  ⟨h.len, h.zero, h.nat, fun j a b => by
    by_cases e : j = i
    · subst e; exact h.wlk.fin (D := dn l) t c h0 hi g
    · exact h.isD j a (by omega), fun j a b q => h.par j (by omega) q⟩
theorem IL.start (hl : l.length = k) (z : l.getD 0 0 = -1) (n : ∀ j, 0 < j → j < k → l.getD j 0 = (p j : Int)) : IL k F p 1 l :=
  ⟨hl, z, fun j a b => by unfold dn; rw [n j a b]; rfl, fun j a b => by omega, fun j _ a b => by unfold dn; rw [n j a b]; rfl⟩
end

set_option maxHeartbeats 2000000 in
set_option maxRecDepth 100000 in
theorem idoms_any (k : Nat) (F : Nat → Nat → Prop) (p s : Nat → Nat) (t : Tr k F p) (c : Semi k F p s) (hk : 0 < k) (hk2 : k ≤ 8192) (u1 u2 : Value) (b cp g2 c2 : Nat) (pa sl : List Int) (w : World)
    (hpl : pa.length = k) (hpz : pa.getD 0 0 = -1) (hpn : ∀ j, 0 < j → j < k → pa.getD j 0 = (p j : Int)) (hP : Ints w (some ⟨b, 0, none⟩) pa) (hsl : sl.length = k) (hsn : ∀ j, j < k → sl.getD j 0 = (s j : Int)) (hS : Ints w (some ⟨g2, 0, none⟩) sl) :
    Calls Try.prog 47 #[.agg #[u1, u2, .slice (some ⟨b, 0, none⟩) k cp], .slice (some ⟨g2, 0, none⟩) k c2] w fun e w' => ∃ g cap l, e = .returned (.slice (some ⟨g, 0, none⟩) k cap) ∧ Row w' w.heap.size g cap l ∧ IL k F p k l ∧ Below w.heap.size w w' := by
  obtain ⟨w1, hw1⟩ : ∃ w1, w.alloc (Obj.cells #[u1, u2, Value.slice (some ⟨b, 0, none⟩) k cp] 70) = w1 := ⟨_, rfl⟩
  have hb1 : Below w.heap.size w w1 := by rw [← hw1]; exact (Below.refl _ w).alloc (Nat.le_refl _) _
  have hz1 : w.heap.size < w1.heap.size := by rw [← hw1]; simp
  have hP1 : Ints w1 (some ⟨b, 0, none⟩) pa := hP.below hb1 (Nat.le_refl _)
  have HP1 := Lib.hid hP1
  have HS := Lib.hid hS
  have Hpl := Lib.hid hpl
  have Hsl := Lib.hid hsl
  have Hsn := Lib.hid hsn
  have Hst := Lib.hid (IL.start (F := F) hpl hpz hpn)
  have HB1 := Lib.hid hb1
  have Hw1 := Lib.hid hw1
  have T := Lib.hid t
  have C := Lib.hid c
  clear hP hS hpl hsl hsn hpz hpn hb1 hP1 hw1 t c
  go_enter Try.func47, Try.ntmps47
  go_wp2_with fail
  rw [Hw1.out]
  refine (clone_any b k cp pa Hpl.out hk w1 (by omega) HP1.out).mono ?_
  rintro e w2 ⟨v, rfl, ho, hb2⟩
  obtain ⟨g, cap, rfl, hgb⟩ : ∃ g cap, v = .slice (some ⟨g, 0, none⟩) k cap ∧ w1.heap.size ≤ g := by
    rcases ho.2 with ⟨_, h0⟩ | ⟨g, cap, cur, h1, h2, _⟩
    · rw [Hpl.out] at h0; omega
    · exact ⟨g, cap, by rw [h1, Hpl.out], h2⟩
  have hR : Row w2 w1.heap.size g cap pa := by unfold Row; rw [Hpl.out]; unfold Own at ho; rw [Hpl.out] at ho; exact ho
  have HR := Lib.hid hR
  have HB2 := Lib.hid (HB1.out.trans (hb2.mono (Nat.le_of_lt hz1)))
  have hgw : w.heap.size ≤ g := by omega
  clear hR ho hb2
  go_wp2
  go_loopw [6] (fun x W => ∃ i : Nat, x = .int .i64 i ∧ 0 < i ∧ i ≤ k ∧ ∃ l, Hid (Row W w1.heap.size g cap l) ∧ Hid (IL k F p i l) ∧ Hid (Below w.heap.size w W)) (fun x _ => k - (intOf x).toNat)
  case atStart => exact ⟨1, rfl, by omega, by omega, pa, HR, Hst, HB2⟩
  case round =>
    obtain ⟨i, rfl, h0, hik, l, hrow, hil, hbw⟩ := hrel
    by_cases hlt : i < k
    · have hent := Lib.hid (hil.out.enter (s := s) h0 hlt)
      clear hil
      go_wp2
      go_loopw [] (fun W => ∃ l, Hid (Row W w1.heap.size g cap l) ∧ Hid (IW k F p s i l) ∧ Hid (Below w.heap.size w W)) (fun W => (intOf ((W.cell? ⟨g, i, none⟩).getD (.int .i64 0))).toNat)
      case atStart => exact ⟨l, hrow, hent, hbw⟩
      case round =>
        obtain ⟨l2, hrow2, hiw, hbw2⟩ := hrel
        have hlen := hiw.out.len
        have ce := hrow2.out.cell (i := i) (by omega)
        rw [hiw.out.nat i h0 hlt] at ce
        have hS2 := HS.out.below hbw2.out (Nat.le_refl _)
        obtain ⟨b2, o2, e2, hs2⟩ := hS2 (by rw [Hsl.out]; omega)
        have hb2 : b2 = g2 ∧ o2 = 0 := by injection e2 with e2; injection e2 with a b c; exact ⟨a.symm, b.symm⟩
        obtain ⟨rfl, rfl⟩ := hb2
        have cs2 := hs2 i (by rw [Hsl.out]; exact hlt)
        rw [Hsn.out i hlt, Nat.zero_add] at cs2
        obtain ⟨e, he⟩ : ∃ e, dn l2 i = e := ⟨_, rfl⟩
        obtain ⟨si, hsi⟩ : ∃ si, s i = si := ⟨_, rfl⟩
        rw [he] at ce
        rw [hsi] at cs2
        by_cases hgt : si < e
        · have hst := hiw.out.step T.out h0 hlt (by rw [he, hsi]; exact hgt)
          rw [he] at hst
          obtain ⟨e0, ei, hw3, hlow⟩ := hst
          have cd := hrow2.out.cell (i := e) (by omega)
          rw [hiw.out.nat e e0 (by omega)] at cd
          have fr := hrow2.out.free i
          have hnew := hrow2.out.set i (l2.getD e 0)
          rw [hiw.out.nat e e0 (by omega)] at hnew hw3 hlow
          obtain ⟨d, hd⟩ : ∃ d, dn l2 e = d := ⟨_, rfl⟩
          rw [hd] at cd hnew hw3 hlow
          have hcell := hnew.cell (i := i) (by rw [List.length_set]; omega)
          rw [hw3.nat i h0 hlt] at hcell
          have Hcell := Lib.hid hcell
          have Hce := Lib.hid ce
          have Hnew := Lib.hid hnew
          have Hw3 := Lib.hid hw3
          have Hlow := Lib.hid hlow
          have hb9 : Hid (Below w.heap.size w (wr.setCell ⟨g, i, none⟩ (.int .i64 (d : Int)))) := hbw2.out.setCell (p := ⟨g, i, none⟩) hgw _
          clear hnew hw3 hlow hcell hs2 e2 hS2 hd he hsi
          go_wp2
          go_region
          go_wp2
          try go_region
          go_roundw
          case rel => exact ⟨_, Hnew, Hw3, (show Hid (Below _ _ _) from hb9.out.drew)⟩
          case measure =>
            have h1 : (wr.setCell ⟨g, i, none⟩ (Value.int IntKind.i64 (d : Int))).drew.cell? ⟨g, i, none⟩ = some (.int .i64 (dn (l2.set i (d : Int)) i : Int)) := Hcell.out
            rw [h1, Hce.out]; simpa [intOf] using Hlow.out
        · have hle := hiw.out.leave T.out C.out h0 hlt (by rw [he, hsi]; omega)
          have Hle := Lib.hid hle
          clear hs2 e2 hS2 he hsi hle
          go_wp2
          go_region
          go_wp2
          go_roundw
          case rel => exact ⟨i + 1, by go_num, by omega, hlt, l2, hrow2, Hle, (show Hid (Below _ _ _) from hbw2.out.drew)⟩
          case measure => simp [intOf]; omega
    · obtain rfl : i = k := by omega
      go_wp2
      go_ret
      exact ⟨g, cap, l, rfl, hrow.out.mono (Nat.le_of_lt hz1), hil.out, hbw.out⟩
end Go.Proofs.Ytcmliokkamgcdaa
