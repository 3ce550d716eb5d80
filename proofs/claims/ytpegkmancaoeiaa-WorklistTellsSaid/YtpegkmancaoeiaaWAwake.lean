/-
  awake: the closed example with which every statement ends.
-/
import Derived.Test.YtpegkmancaoeiaaWPop
namespace Go.Proofs.Ytpegkmancaoeiaa
open Go.RowKit Go.WideShapes
set_option linter.unusedVariables false

theorem new_at (ra : Option Addr) (n rc : Nat) (rs : List Int) (hl : rs.length = n) (w : World) (hn : n ≤ 8200) (hr : Ints w ra rs) (hrn : ra = none → rc = 0) :
    Calls Try.prog 21 #[.slice ra n rc] w (NewEnd w rs) := by
  subst hl; exact new_any ra rc rs w hn hr hrn
theorem push_at (ra : Option Addr) (n rc : Nat) (rs : List Int) (hl : rs.length = n) (za : Option Addr) (m zc : Nat) (zs : List Int) (hm' : zs.length = m) (x : Int) (w : World) (hn : n ≤ maxLen) (hm : m ≤ maxLen) (hr : Ints w ra rs) (hz : Ints w za zs) (hrn : ra = none → rc = 0) (hzn : za = none → zc = 0) :
    Calls Try.prog 11 #[.agg #[.slice ra n rc, .slice za m zc], .int .i64 x] w (PushEnd w rs zs x) := by
  subst hl hm'; exact push_any ra rc rs za zc zs x w hn hm hr hz hrn hzn
theorem pop_at (ra : Option Addr) (n rc : Nat) (rs : List Int) (hl : rs.length = n) (za : Option Addr) (zc m : Nat) (z : Int) (ts : List Int) (w : World) (hn1 : (z :: ts).length = m) (hv : QV rs (z :: ts)) (hr : Ints w ra rs) (hz : Ints w za (z :: ts)) (hrn : ra = none → rc = 0) (hzc : m ≤ zc) (hzc2 : zc ≤ maxLen) :
    Calls Try.prog 14 #[.agg #[.slice ra n rc, .slice za m zc]] w (PopEnd w rs z ts) := by
  subst hl; exact pop_good ra rc rs za zc m z ts w hn1 hv hr hz hrn hzc hzc2
theorem len_at (ra : Option Addr) (n rc : Nat) (rs : List Int) (hl : rs.length = n) (za : Option Addr) (m zc : Nat) (zs : List Int) (hm' : zs.length = m) (r : Int) (h : lenZ rs zs = r) (w : World) (hn : n ≤ maxLen) (hm : m ≤ maxLen) (hr : Ints w ra rs) (hz : Ints w za zs) :
    Calls Try.prog 16 #[.agg #[.slice ra n rc, .slice za m zc]] w fun e w' => e = .returned (.int .i64 r) ∧ Below w.heap.size w w' := by
  subst hl hm' h; exact len_any ra rc rs za zc zs w hn hm hr hz
theorem Own.cap {w : World} {base : Nat} {a : Option Addr} {n c : Nat} {zs : List Int} (h : Own w base (.slice a n c) zs) : n ≤ c ∧ c ≤ maxLen := by
  rcases h.2 with ⟨h1, h2⟩ | ⟨g, cap, cur, h1, hb, hh, hnc, hcm, _⟩
  · cases h1; simp
  · cases h1; exact ⟨hnc, hcm⟩

theorem Own.ints {w : World} {base : Nat} {a : Option Addr} {n c : Nat} {zs : List Int} (h : Own w base (.slice a n c) zs) : Ints w a zs := by
  obtain ⟨a', c', e, hi, _⟩ := h.shape2
  cases e; exact hi
theorem Own.nilcap {w : World} {base : Nat} {a : Option Addr} {n c : Nat} {zs : List Int} (h : Own w base (.slice a n c) zs) : a = none → c = 0 := by
  obtain ⟨a', c', e, _, hi⟩ := h.shape2
  cases e; exact hi
theorem own_q {w2 : World} {base B : Nat} {v u u' : Value} {zs : List Int} (h : Own w2 base v zs) (hB : B < base) : Own ((w2.setCell ⟨B, 0, none⟩ u).setCell ⟨B, 1, none⟩ u') base v zs :=
  World.ownsRow.kept h (grown_trans (grown_setCell w2 B 0 u) (grown_setCell (w2.setCell ⟨B, 0, none⟩ u) B 1 u')) (.inr (h.ne_of_ge hB))
/-- Block B holds a worklist's two slices. -/
structure QC (w : World) (B : Nat) (u u' : Value) : Prop where
  lt : B < w.heap.size
  c0 : w.cell? ⟨B, 0, none⟩ = some u
  c1 : w.cell? ⟨B, 1, none⟩ = some u'
  f0 : w.frozen? ⟨B, 0, none⟩ = false
  f1 : w.frozen? ⟨B, 1, none⟩ = false
theorem QC.new (w : World) (u u' : Value) (t : TypeId) : QC (w.alloc (.cells #[u, u'] t)) w.heap.size u u' := ⟨by simp, by simp, by simp, by simp, by simp⟩
theorem QC.below {w w' : World} {B : Nat} {u u' : Value} (h : QC w B u u') (hb : Below w.heap.size w w') : QC w' B u u' :=
  ⟨Nat.lt_of_lt_of_le h.lt hb.size, (hb.cell (p := ⟨B, 0, none⟩) h.lt).trans h.c0, (hb.cell (p := ⟨B, 1, none⟩) h.lt).trans h.c1, (hb.frozen (p := ⟨B, 0, none⟩) h.lt).trans h.f0, (hb.frozen (p := ⟨B, 1, none⟩) h.lt).trans h.f1⟩
theorem QC.alloc {w : World} {B : Nat} {u u' : Value} (h : QC w B u u') (o : Obj) : QC (w.alloc o) B u u' := h.below ((Below.refl _ w).alloc (Nat.le_refl _) o)
theorem QC.set {w : World} {B : Nat} {u u' : Value} (h : QC w B u u') (v v' : Value) : QC ((w.setCell ⟨B, 0, none⟩ v).setCell ⟨B, 1, none⟩ v') B v v' := by
  have hg := grown_trans (grown_setCell w B 0 v) (grown_setCell (w.setCell ⟨B, 0, none⟩ v) B 1 v')
  refine ⟨Nat.lt_of_lt_of_le h.lt hg.size, ?_, ?_, ?_, ?_⟩
  · rw [World.cell?_setCell_other _ _ _ _ (by simp)]
    exact World.cell?_setCell_same' _ _ _ (by rw [h.c0]; rfl)
  · exact World.cell?_setCell_same' _ _ _ (by rw [World.cell?_setCell_other _ _ _ _ (by simp), h.c1]; rfl)
  · rw [World.frozen?_setCell, World.frozen?_setCell]; exact h.f0
  · rw [World.frozen?_setCell, World.frozen?_setCell]; exact h.f1
theorem ex1 : pushE [5, 1] [] 0 = 0 := by decide
theorem ex2 : pushR [5, 1] [] 0 = [5, 1] := by decide
theorem ex3 : pushZ [5, 1] [] 0 = [0] := by decide
theorem ex4 : pushE [5, 1] [0] 1 = 0 := by decide
theorem ex5 : pushR [5, 1] [0] 1 = [5, 1] := by decide
theorem ex6 : pushZ [5, 1] [0] 1 = [1, 0] := by decide
theorem ex7 : QV [5, 1] [1, 0] := (qchk_iff _ _).1 (by decide)
theorem ex8 : lenZ [5, 1] [1, 0] = 2 := by decide

set_option maxHeartbeats 2000000 in
theorem awake_any (w : World) : Calls Try.prog 8 #[] w fun e w' => e = .returned (.bool true) ∧ Below w.heap.size w w' := by
  go_enter Try.func8, Try.ntmps8
  go_wp2_with fail
  refine (new_at _ 2 _ [5, 1] rfl _ (by omega) ?_ (fun h => by cases h)).mono ?_
  · intro _
    refine ⟨_, _, rfl, fun i hi => ?_⟩
    have h2 : i < 2 := hi
    rcases (show i = 0 ∨ i = 1 by omega) with rfl | rfl
    · simp [go_sem]
    · simp [go_sem]
  rintro e w1 ⟨hb1, (⟨-, v1, rfl, ho1⟩ | ⟨hl, -⟩)⟩
  · obtain ⟨a1, k1, rfl, hi1, hn1⟩ := ho1.shape2
    have Hb1 := Lib.hid hb1
    have Hi1 := Lib.hid hi1
    have Hn1 := Lib.hid hn1
    have hs1 : w.heap.size ≤ w1.heap.size := by have := hb1.size; simp at this; omega
    clear hb1 ho1 hi1 hn1
    go_wp2_with fail
    refine (push_at _ 2 _ [5, 1] rfl _ 0 _ [] rfl 0 _ (by unfold maxLen; omega) (by unfold maxLen; omega) (Hi1.out.alloc _) (fun h => absurd h (by simp)) Hn1.out (fun _ => rfl)).mono ?_
    rintro e w2 ⟨v2, v3, he, ho2, ho3, hb2⟩
    rw [ex1] at he
    rw [ex2] at ho2
    rw [ex3] at ho3
    subst he
    obtain ⟨a2, k2, rfl, -, -⟩ := ho2.shape2
    obtain ⟨a3, k3, rfl, -, -⟩ := ho3.shape2
    have hq2 := (QC.new w1 (.slice a1 2 k1) (.slice none 0 0) 24).below hb2
    have p0 := hq2.c0
    have p1 := hq2.c1
    have p2 := hq2.f0
    have p3 := hq2.f1
    have Hq2 := Lib.hid hq2
    clear hq2
    have hs2 : w1.heap.size < w2.heap.size := by have := hb2.size; simp at this; omega
    have Hb2 := Lib.hid hb2
    have Ho2 := Lib.hid (ho2.mono (b := w1.heap.size + 1) (by simp))
    have Ho3 := Lib.hid (ho3.mono (b := w1.heap.size + 1) (by simp))
    clear hb2 ho2 ho3
    go_wp2_with fail
    refine (push_at _ 2 _ [5, 1] rfl _ 1 _ [0] rfl 1 _ (by unfold maxLen; omega) (by unfold maxLen; omega) (own_q Ho2.out (by omega)).ints (own_q Ho3.out (by omega)).ints Ho2.out.nilcap Ho3.out.nilcap).mono ?_
    rintro e w3 ⟨v4, v5, he, ho4, ho5, hb3⟩
    rw [ex4] at he
    rw [ex5] at ho4
    rw [ex6] at ho5
    subst he
    obtain ⟨a4, k4, rfl, -, -⟩ := ho4.shape2
    obtain ⟨a5, k5, rfl, -, -⟩ := ho5.shape2
    have hq3 := (Hq2.out.set (.slice a2 2 k2) (.slice a3 1 k3)).below hb3
    clear p0 p1 p2 p3
    have p0 := hq3.c0
    have p1 := hq3.c1
    have p2 := hq3.f0
    have p3 := hq3.f1
    have Hq3 := Lib.hid hq3
    clear hq3
    have hs3 : w1.heap.size < w3.heap.size := by have := hb3.size; simp at this; omega
    have Hb3 := Lib.hid hb3
    have Ho4 := Lib.hid (ho4.mono (b := w1.heap.size + 1) (by simp; omega))
    have Ho5 := Lib.hid (ho5.mono (b := w1.heap.size + 1) (by simp; omega))
    clear hb3 ho4 ho5
    go_wp2_with fail
    refine (pop_at _ 2 _ [5, 1] rfl _ _ 2 1 [0] _ rfl ex7 (own_q (B := w1.heap.size) Ho4.out (by omega)).ints (own_q (B := w1.heap.size) Ho5.out (by omega)).ints Ho4.out.nilcap Ho5.out.cap.1 Ho5.out.cap.2).mono ?_
    rintro e w4 ⟨v6, v7, rfl, ho6, ho7, hb4⟩
    obtain ⟨a6, k6, rfl, -, -⟩ := ho6.shape2
    obtain ⟨a7, k7, rfl, -, -⟩ := ho7.shape2
    have hq4 := (Hq3.out.set (.slice a4 2 k4) (.slice a5 2 k5)).below hb4
    clear p0 p1 p2 p3
    have p0 := hq4.c0
    have p1 := hq4.c1
    clear hq4
    have hs4 : w1.heap.size < w4.heap.size := by have := hb4.size; simp at this; omega
    have Hb4 := Lib.hid hb4
    have Ho8 := Lib.hid ((own_q Ho4.out (B := w1.heap.size) (u := .slice a4 2 k4) (u' := .slice a5 2 k5) (by omega)).below Hb4.out (Nat.le_refl _))
    have Ho9 := Lib.hid ((own_q Ho5.out (B := w1.heap.size) (u := .slice a4 2 k4) (u' := .slice a5 2 k5) (by omega)).below Hb4.out (Nat.le_refl _))
    clear hb4 ho6 ho7
    go_wp2_with fail
    refine (len_at _ 2 _ [5, 1] rfl _ 2 _ [1, 0] rfl 2 ex8 _ (by unfold maxLen; omega) (by unfold maxLen; omega) (Ho8.out.alloc _).ints (Ho9.out.alloc _).ints).mono ?_
    rintro e w5 ⟨rfl, hb5⟩
    have Hb5 := Lib.hid hb5
    clear hb5
    go_wp2
    go_ret
    refine ⟨rfl, ?_⟩
    have q1 : Below w.heap.size w w1 := ((Below.refl _ w).alloc (Nat.le_refl _) _).trans (Hb1.out.mono (by simp))
    have q2 := q1.trans (((Below.refl w.heap.size w1).alloc hs1 _).trans (Hb2.out.mono (by simp; omega)))
    have q3 := ((q2.setCell (p := ⟨w1.heap.size, 0, none⟩) hs1 (.slice a2 2 k2)).setCell (p := ⟨w1.heap.size, 1, none⟩) hs1 (.slice a3 1 k3)).trans (Hb3.out.mono (by simp; omega))
    have q4 := ((q3.setCell (p := ⟨w1.heap.size, 0, none⟩) hs1 (.slice a4 2 k4)).setCell (p := ⟨w1.heap.size, 1, none⟩) hs1 (.slice a5 2 k5)).trans (Hb4.out.mono (by simp; omega))
    exact (q4.alloc (by omega) _).trans (Hb5.out.mono (by simp; omega))
  · simp at hl
end Go.Proofs.Ytpegkmancaoeiaa
