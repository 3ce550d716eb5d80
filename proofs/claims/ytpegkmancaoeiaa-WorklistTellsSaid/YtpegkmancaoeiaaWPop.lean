/-
  Pop: the first item, and the others in new memory.
-/
import Derived.Test.YtpegkmancaoeiaaWEq
namespace Go.Proofs.Ytpegkmancaoeiaa
open Go.RowKit Go.WideShapes
set_option linter.unusedVariables false

def NoPop (w : World) (e : Ending) (w' : World) : Prop := e = .returned (.tuple #[.int .i64 0, .agg #[.slice none 0 0, .slice none 0 0], .bool false]) ∧ Below w.heap.size w w'
def PopEnd (w : World) (rs : List Int) (z : Int) (ts : List Int) (e : Ending) (w' : World) : Prop :=
  ∃ v1 v2, e = .returned (.tuple #[.int .i64 z, .agg #[v1, v2], .bool true]) ∧ Own w' w.heap.size v1 rs ∧ Own w' w.heap.size v2 ts ∧ Below w.heap.size w w'

section
variable (ra : Option Addr) (rc : Nat) (rs : List Int) (za : Option Addr) (zc : Nat) (zs : List Int) (w : World)
set_option maxHeartbeats 800000 in
theorem pop_bad (hn : rs.length ≤ maxLen) (hm : zs.length ≤ maxLen) (hr : Ints w ra rs) (hz : Ints w za zs) (h : zs.length = 0 ∨ ¬ qchk rs zs = 0) :
    Calls Try.prog 14 #[.agg #[.slice ra rs.length rc, .slice za zs.length zc]] w (NoPop w) := by
  have Hr := Lib.hid ((hr.alloc (.cells #[.slice ra rs.length rc, .slice za zs.length zc] 24)).alloc (.cells #[.slice none 0 0, .slice none 0 0] 24))
  have Hz := Lib.hid ((hz.alloc (.cells #[.slice ra rs.length rc, .slice za zs.length zc] 24)).alloc (.cells #[.slice none 0 0, .slice none 0 0] 24))
  clear hr hz
  by_cases h0 : zs.length = 0
  · clear h
    have hb : ((zs.length : Int) == 0) = true := by rw [h0]; rfl
    have H0 := Lib.hid h0
    clear h0
    go_enter Try.func14, Try.ntmps14
    go_wp2
    refine bodyPost_ret (v := .tuple #[.int .i64 0, .agg #[.slice none 0 0, .slice none 0 0], .bool false]) (by simp [results, Try.results14, go_sem]) rfl ?_
    exact ⟨rfl, ((Below.refl _ _).alloc (Nat.le_refl _) _).alloc (by simp) _⟩
  · have hq : ¬ qchk rs zs = 0 := by rcases h with h | h; exact absurd h h0; exact h
    clear h
    have hb : ((zs.length : Int) == 0) = false := by rw [beq_eq_false_iff_ne]; omega
    obtain ⟨r, hr⟩ : ∃ r, qchk rs zs = r := ⟨_, rfl⟩
    have hb2 : (r != 0) = true := by rw [bne_iff_ne, ← hr]; exact hq
    have Hq := Lib.hid hr
    clear hq hr h0
    go_enter Try.func14, Try.ntmps14
    go_wp2_with fail
    refine (check_at ra rc rs za zc zs r Hq.out _ hn hm Hr.out Hz.out).mono ?_
    rintro e w1 ⟨rfl, hbl⟩
    obtain ⟨hcell, hfrz⟩ := bcell hbl
    have Hb := Lib.hid hbl
    clear hbl
    go_wp2
    refine bodyPost_ret (v := .tuple #[.int .i64 0, .agg #[.slice none 0 0, .slice none 0 0], .bool false]) (by simp [results, Try.results14, go_sem, hcell]) rfl ?_
    exact ⟨rfl, (((((Below.refl _ _).alloc (Nat.le_refl _) _).alloc (by simp) _).trans (Hb.out.mono (by simp; omega))).setCell (by simp) _).setCell (by simp) _⟩
end

section
variable {n b off : Nat} {w1 wp w' : World} {u0 u1 u2 : Value}
theorem keepP (hS : wp.cell? ⟨n, 0, none⟩ = some u0 ∧ wp.cell? ⟨n, 1, none⟩ = some u1 ∧ wp.cell? ⟨b, off, none⟩ = some u2 ∧ Below (n + 1) w1 wp) (hsz : n + 1 ≤ w1.heap.size) (hbn : b < n) (hb : Below wp.heap.size wp w') :
    w'.cell? ⟨n, 0, none⟩ = some u0 ∧ w'.cell? ⟨n, 1, none⟩ = some u1 ∧ w'.cell? ⟨b, off, none⟩ = some u2 ∧ Below (n + 1) w1 w' := by
  have hs : n + 1 ≤ wp.heap.size := Nat.le_trans hsz hS.2.2.2.size
  exact ⟨(hb.cell (p := ⟨n, 0, none⟩) (by show n < _; omega)).trans hS.1, (hb.cell (p := ⟨n, 1, none⟩) (by show n < _; omega)).trans hS.2.1, (hb.cell (p := ⟨b, off, none⟩) (by show b < _; omega)).trans hS.2.2.1, hS.2.2.2.trans (hb.mono hs)⟩
theorem keepPC {g k : Nat} {v : Value} (hS : wp.cell? ⟨n, 0, none⟩ = some u0 ∧ wp.cell? ⟨n, 1, none⟩ = some u1 ∧ wp.cell? ⟨b, off, none⟩ = some u2 ∧ Below (n + 1) w1 wp) (hbn : b < n) (hg : n + 1 ≤ g) :
    (wp.setCell ⟨g, k, none⟩ v).cell? ⟨n, 0, none⟩ = some u0 ∧ (wp.setCell ⟨g, k, none⟩ v).cell? ⟨n, 1, none⟩ = some u1 ∧ (wp.setCell ⟨g, k, none⟩ v).cell? ⟨b, off, none⟩ = some u2 ∧ Below (n + 1) w1 (wp.setCell ⟨g, k, none⟩ v) :=
  ⟨(World.cell?_setCell_other _ _ _ _ (by simp; try omega)).trans hS.1, (World.cell?_setCell_other _ _ _ _ (by simp; try omega)).trans hS.2.1, (World.cell?_setCell_other _ _ _ _ (by simp; try omega)).trans hS.2.2.1, hS.2.2.2.setCell (p := ⟨g, k, none⟩) hg _⟩
end
theorem copied_pp {w w1 wp : World} {a : Option Addr} {n c : Nat} {zs : List Int} (hl : zs.length = n) (h01 : Below w.heap.size w w1) (hS : Below (w.heap.size + 1) w1 wp) (hn : n ≤ 10000) (hz : Ints w a zs) (hnil : a = none → c = 0) :
    Calls Try.prog 28 #[.slice a n c] wp fun e w' => ∃ v, e = .returned v ∧ Own w' wp.heap.size v zs ∧ Below wp.heap.size wp w' :=
  copied_any a n c zs hl wp hn (hz.below (h01.trans (hS.mono (by omega))) (Nat.le_refl _)) hnil

theorem pop_fin {w wA wB : World} {rs ts : List Int} {z : Int} {v1 v2 : Value} {B : Nat} (hb : Below w.heap.size w wB) (hB : w.heap.size + 2 ≤ B) (o1 : Own wB B v1 rs) (o2 : Own wB B v2 ts) :
    PopEnd w rs z ts (.returned (.tuple #[.int .i64 z, .agg #[v1, v2], .bool true])) ((wB.setCell ⟨w.heap.size + 1, 0, none⟩ v1).setCell ⟨w.heap.size + 1, 1, none⟩ v2) := by
  have hg := grown_trans (grown_setCell wB (w.heap.size + 1) 0 v1) (grown_setCell (wB.setCell ⟨w.heap.size + 1, 0, none⟩ v1) (w.heap.size + 1) 1 v2)
  refine ⟨v1, v2, rfl, ?_, ?_, (hb.setCell (by simp) _).setCell (by simp) _⟩
  · exact Own.mono (World.ownsRow.kept o1 hg (.inr (o1.ne_of_ge (by omega)))) (by omega)
  · exact Own.mono (World.ownsRow.kept o2 hg (.inr (o2.ne_of_ge (by omega)))) (by omega)

theorem check_nat (ra : Option Addr) (rc : Nat) (rs : List Int) (za : Option Addr) (n zc : Nat) (zs : List Int) (hl : zs.length = n) (r : Int) (hq : qchk rs zs = r) (w : World) (hn : rs.length ≤ maxLen) (hm : n ≤ maxLen) (hr : Ints w ra rs) (hz : Ints w za zs) :
    Calls Try.prog 9 #[.agg #[.slice ra rs.length rc, .slice za n zc]] w fun e w' => e = .returned (.int .i64 r) ∧ Below w.heap.size w w' := by
  subst hl
  exact check_at ra rc rs za zc zs r hq w hn hm hr hz

set_option maxHeartbeats 4000000 in
theorem pop_good (ra : Option Addr) (rc : Nat) (rs : List Int) (za : Option Addr) (zc n : Nat) (z : Int) (ts : List Int) (w : World) (hn1 : (z :: ts).length = n) (hv : QV rs (z :: ts)) (hr : Ints w ra rs) (hz : Ints w za (z :: ts)) (hrn : ra = none → rc = 0) (hzc : n ≤ zc) (hzc2 : zc ≤ maxLen) :
    Calls Try.prog 14 #[.agg #[.slice ra rs.length rc, .slice za n zc]] w (PopEnd w rs z ts) := by
  have hq := (qchk_iff _ _).2 hv
  have h1 := hv.rl
  have h2 := hv.zl
  rw [hn1] at h2
  have hpos : 1 ≤ n := by rw [← hn1]; simp
  have htl : ts.length = n - 1 := by rw [← hn1]; simp
  unfold maxLen at hzc2
  obtain ⟨b, off, rfl, hcell0⟩ := hz (by simp)
  have ck := hcell0 0 (by simp)
  simp only [Nat.add_zero, List.getD_cons_zero] at ck
  have hbw := World.block_lt_of_cell? _ _ ck
  simp at hbw
  have hts : ∀ i, i < n - 1 → w.cell? ⟨b, off + 1 + i, none⟩ = some (.int .i64 (ts.getD i 0)) := fun i hi => by
    have := hcell0 (i + 1) (by simp; omega)
    rw [List.getD_cons_succ] at this
    rw [← this, show off + 1 + i = off + (i + 1) from by omega]
  have Hq := Lib.hid hq
  have Hr := Lib.hid hr
  have Hz := Lib.hid hz
  have Hrn := Lib.hid hrn
  have Hts := Lib.hid hts
  have Htl := Lib.hid htl
  have Hn1 := Lib.hid hn1
  have HzT := Lib.hid (show Ints w (some ⟨b, off + 1, none⟩) ts from fun _ => ⟨b, off + 1, rfl, fun i hi => hts i (by omega)⟩)
  clear hr hz hq hv hrn hcell0 hts htl hn1
  have hb : ((n : Int) == 0) = false := by rw [beq_eq_false_iff_ne]; omega
  have Hck := Lib.hid ck
  go_enter Try.func14, Try.ntmps14
  go_wp2_with fail
  refine (check_nat ra rc rs _ n zc (z :: ts) Hn1.out 0 Hq.out _ (by unfold maxLen; omega) (by unfold maxLen; omega) ((Hr.out.alloc _).alloc _) ((Hz.out.alloc _).alloc _)).mono ?_
  rintro e w1 ⟨rfl, hbl⟩
  obtain ⟨hcell, hfrz⟩ := bcell hbl
  have Hb := Lib.hid hbl
  have H01 := Lib.hid ((((Below.refl _ w).alloc (Nat.le_refl _) _).alloc (by simp) _).trans (hbl.mono (by simp; omega)) : Below w.heap.size w w1)
  have hz1 : w.heap.size + 1 < w1.heap.size := by have := hbl.size; simp at this; omega
  clear hbl ck
  by_cases hone : n = 1
  · subst hone
    have HzU := Lib.hid (show Ints w (some ⟨b, off, none⟩) ts from fun h => by have := Htl.out; omega)
    clear hb
    go_wp2
    have hS0 : w1.drew.cell? ⟨w.heap.size, 0, none⟩ = some (.slice ra rs.length rc) ∧ w1.drew.cell? ⟨w.heap.size, 1, none⟩ = some (.slice (some ⟨b, off, none⟩) 1 zc) ∧ w1.drew.cell? ⟨b, off, none⟩ = some (.int .i64 z) ∧ Below (w.heap.size + 1) w1 w1.drew :=
      ⟨(hcell _ _ (by simp; omega)).trans (by simp), (hcell _ _ (by simp; omega)).trans (by simp), (H01.out.cell (p := ⟨b, off, none⟩) hbw).trans Hck.out, Drawn.below ⟨1, rfl⟩ _⟩
    have hsz : w.heap.size + 1 ≤ w1.heap.size := by omega
    have Hcell := Lib.hid hcell
    have Hfrz := Lib.hid hfrz
    clear hcell hfrz
    go_region_held3 (fun w' => w'.cell? ⟨w.heap.size, 0, none⟩ = some (.slice ra rs.length rc) ∧ w'.cell? ⟨w.heap.size, 1, none⟩ = some (.slice (some ⟨b, off, none⟩) 1 zc) ∧ w'.cell? ⟨b, off, none⟩ = some (.int .i64 z) ∧ Below (w.heap.size + 1) w1 w')
      (first
        | (with_reducible exact hS0)
        | (with_reducible exact keepP hS0 hsz hbw hb1)
        | (with_reducible exact keepP (keepP hS0 hsz hbw hb1) hsz hbw hb2)
        | (with_reducible exact keepPC (keepPC (keepP (keepP hS0 hsz hbw hb1) hsz hbw hb2) hbw (Nat.le_refl _)) hbw (Nat.le_refl _))
        | fail)
      (first
        | (go_at_call_of 28 (Value.slice ra rs.length rc); (with_reducible refine Calls.mono (copied_pp (zs := rs) rfl H01.out (by exact (by assumption : _ ∧ _ ∧ _ ∧ _).2.2.2) (by omega) Hr.out Hrn.out) ?_); rintro e wA ⟨v1, rfl, ho1, hb1⟩; obtain ⟨a1, k1, rfl, -, -⟩ := ho1.shape2)
        | (go_at_call 28; (with_reducible refine Calls.mono (copied_pp (zs := ts) Htl.out H01.out (by exact (by assumption : _ ∧ _ ∧ _ ∧ _).2.2.2) (by omega) HzU.out (fun h => by cases h)) ?_); rintro e wB ⟨v2, rfl, ho2, hb2⟩; obtain ⟨a2, k2, rfl, -, -⟩ := ho2.shape2
           have z1 : w.heap.size + 1 < wA.heap.size := Nat.lt_of_lt_of_le hz1 hb1.size
           have i0 := (hb2.cell (p := ⟨w.heap.size + 1, 0, none⟩) z1).trans ((hb1.cell (p := ⟨w.heap.size + 1, 0, none⟩) hz1).trans ((Hcell.out _ _ (by simp)).trans (by simp)) : wA.cell? ⟨w.heap.size + 1, 0, none⟩ = some (.slice none 0 0))
           have i1 := (hb2.cell (p := ⟨w.heap.size + 1, 1, none⟩) z1).trans ((hb1.cell (p := ⟨w.heap.size + 1, 1, none⟩) hz1).trans ((Hcell.out _ _ (by simp)).trans (by simp)) : wA.cell? ⟨w.heap.size + 1, 1, none⟩ = some (.slice none 0 0))
           have i2 := (hb2.frozen (p := ⟨w.heap.size + 1, 0, none⟩) z1).trans ((hb1.frozen (p := ⟨w.heap.size + 1, 0, none⟩) hz1).trans ((Hfrz.out _ _ (by simp)).trans (by simp)) : wA.frozen? ⟨w.heap.size + 1, 0, none⟩ = false)
           have i3 := (hb2.frozen (p := ⟨w.heap.size + 1, 1, none⟩) z1).trans ((hb1.frozen (p := ⟨w.heap.size + 1, 1, none⟩) hz1).trans ((Hfrz.out _ _ (by simp)).trans (by simp)) : wA.frozen? ⟨w.heap.size + 1, 1, none⟩ = false)))
    go_wp2
    refine bodyPost_ret (v := .tuple #[.int .i64 z, .agg #[.slice a1 rs.length k1, .slice a2 ts.length k2], .bool true]) (by simp [results, Try.results14, go_sem, i0, i1]) rfl ?_
    exact pop_fin (wA := wA) (H01.out.trans ((keepP (keepP hS0 hsz hbw hb1) hsz hbw hb2).2.2.2.mono (by omega))) (by show w.heap.size + 2 ≤ w1.heap.size; omega) (ho1.below hb2 (Nat.le_refl _)) (ho2.mono hb1.size)
  · have hn2 : 2 ≤ n := by omega
    have hp0 : 0 < n := by omega
    have hp1 : (0 : Int) < (n : Int) := by omega
    go_wp2
    have hS0 : w1.drew.cell? ⟨w.heap.size, 0, none⟩ = some (.slice ra rs.length rc) ∧ w1.drew.cell? ⟨w.heap.size, 1, none⟩ = some (.slice (some ⟨b, off, none⟩) n zc) ∧ w1.drew.cell? ⟨b, off, none⟩ = some (.int .i64 z) ∧ Below (w.heap.size + 1) w1 w1.drew :=
      ⟨(hcell _ _ (by simp; omega)).trans (by simp), (hcell _ _ (by simp; omega)).trans (by simp), (H01.out.cell (p := ⟨b, off, none⟩) hbw).trans Hck.out, Drawn.below ⟨1, rfl⟩ _⟩
    have hsz : w.heap.size + 1 ≤ w1.heap.size := by omega
    have Hcell := Lib.hid hcell
    have Hfrz := Lib.hid hfrz
    clear hcell hfrz
    go_region_held3 (fun w' => w'.cell? ⟨w.heap.size, 0, none⟩ = some (.slice ra rs.length rc) ∧ w'.cell? ⟨w.heap.size, 1, none⟩ = some (.slice (some ⟨b, off, none⟩) n zc) ∧ w'.cell? ⟨b, off, none⟩ = some (.int .i64 z) ∧ Below (w.heap.size + 1) w1 w')
      (first
        | (with_reducible exact hS0)
        | (with_reducible exact keepP hS0 hsz hbw hb1)
        | (with_reducible exact keepP (keepP hS0 hsz hbw hb1) hsz hbw hb2)
        | (with_reducible exact keepPC (keepPC (keepP (keepP hS0 hsz hbw hb1) hsz hbw hb2) hbw (Nat.le_refl _)) hbw (Nat.le_refl _))
        | fail)
      (first
        | (go_at_call_of 28 (Value.slice ra rs.length rc); (with_reducible refine Calls.mono (copied_pp (zs := rs) rfl H01.out (by exact (by assumption : _ ∧ _ ∧ _ ∧ _).2.2.2) (by omega) Hr.out Hrn.out) ?_); rintro e wA ⟨v1, rfl, ho1, hb1⟩; obtain ⟨a1, k1, rfl, -, -⟩ := ho1.shape2)
        | (go_at_call 28; (with_reducible refine Calls.mono (copied_pp (zs := ts) Htl.out H01.out (by exact (by assumption : _ ∧ _ ∧ _ ∧ _).2.2.2) (by omega) HzT.out (fun h => by cases h)) ?_); rintro e wB ⟨v2, rfl, ho2, hb2⟩; obtain ⟨a2, k2, rfl, -, -⟩ := ho2.shape2
           have z1 : w.heap.size + 1 < wA.heap.size := Nat.lt_of_lt_of_le hz1 hb1.size
           have i0 := (hb2.cell (p := ⟨w.heap.size + 1, 0, none⟩) z1).trans ((hb1.cell (p := ⟨w.heap.size + 1, 0, none⟩) hz1).trans ((Hcell.out _ _ (by simp)).trans (by simp)) : wA.cell? ⟨w.heap.size + 1, 0, none⟩ = some (.slice none 0 0))
           have i1 := (hb2.cell (p := ⟨w.heap.size + 1, 1, none⟩) z1).trans ((hb1.cell (p := ⟨w.heap.size + 1, 1, none⟩) hz1).trans ((Hcell.out _ _ (by simp)).trans (by simp)) : wA.cell? ⟨w.heap.size + 1, 1, none⟩ = some (.slice none 0 0))
           have i2 := (hb2.frozen (p := ⟨w.heap.size + 1, 0, none⟩) z1).trans ((hb1.frozen (p := ⟨w.heap.size + 1, 0, none⟩) hz1).trans ((Hfrz.out _ _ (by simp)).trans (by simp)) : wA.frozen? ⟨w.heap.size + 1, 0, none⟩ = false)
           have i3 := (hb2.frozen (p := ⟨w.heap.size + 1, 1, none⟩) z1).trans ((hb1.frozen (p := ⟨w.heap.size + 1, 1, none⟩) hz1).trans ((Hfrz.out _ _ (by simp)).trans (by simp)) : wA.frozen? ⟨w.heap.size + 1, 1, none⟩ = false)))
    go_wp2
    refine bodyPost_ret (v := .tuple #[.int .i64 z, .agg #[.slice a1 rs.length k1, .slice a2 ts.length k2], .bool true]) (by simp [results, Try.results14, go_sem, i0, i1]) rfl ?_
    exact pop_fin (wA := wA) (H01.out.trans ((keepP (keepP hS0 hsz hbw hb1) hsz hbw hb2).2.2.2.mono (by omega))) (by show w.heap.size + 2 ≤ w1.heap.size; omega) (ho1.below hb2 (Nat.le_refl _)) (ho2.mono hb1.size)
end Go.Proofs.Ytpegkmancaoeiaa
