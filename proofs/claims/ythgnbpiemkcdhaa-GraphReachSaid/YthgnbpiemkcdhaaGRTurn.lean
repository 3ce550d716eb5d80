/-
  The definition's Reverse and Pred, at a graph that is valid and at one that is not.
-/
import Derived.Test.YthgnbpiemkcdhaaGRMake
import Derived.Test.YthgnbpiemkcdhaaGRevs
namespace Go.Proofs.Ythgnbpiemkcdhaa
open Go.RowKit Go.Shelf Go.WideShapes
set_option linter.unusedVariables false

theorem Canon.perm {N : Int} {ps qs : List (Int × Int)} (hg : GOk N ps) (h : Canon (ps.map revE) qs) : qs.Perm (ps.map revE) := by
  have hnd : ∀ {l : List (Int × Int)}, Asc2 l → l.Nodup := fun {l} hl => hl.pairwise.imp fun {a b} hab e => by subst e; rw [ltE_irrefl] at hab; cases hab
  exact (List.perm_ext_iff_of_nodup (hnd h.1) (nodup_rev (hnd hg.asc2))).2 h.2
theorem OwnP.edg {w : World} {base : Nat} {v : Value} {ps : List (Int × Int)} (h : OwnP w base v ps) : ∃ a c, v = .slice a ps.length c ∧ Edg w a c ps := by
  have h' := h
  rcases h.2 with ⟨rfl, hn⟩ | ⟨g, cap, cur, rfl, hb, hh, h3, h4, _⟩
  · obtain ⟨a, c, e, hp⟩ := h'.shape
    simp only [Value.slice.injEq] at e
    obtain ⟨rfl, _, rfl⟩ := e
    exact ⟨none, 0, by rw [hn], hp, by omega, by simp, fun _ => rfl⟩
  · obtain ⟨a, c, e, hp⟩ := h'.shape
    simp only [Value.slice.injEq] at e
    obtain ⟨rfl, _, rfl⟩ := e
    exact ⟨_, _, rfl, hp, h3, h4, fun e => by cases e⟩
def RTurnEnd (w : World) (N : Int) (ps : List (Int × Int)) (e : Ending) (w' : World) : Prop :=
  Below w.heap.size w w' ∧ ∃ qs a' c', Canon (ps.map revE) qs ∧ qs.length ≤ ps.length ∧ Pairs w' a' qs ∧ e = .returned (.agg #[.int .i64 N, .slice a' qs.length c'])

set_option maxHeartbeats 3200000 in
set_option maxRecDepth 100000 in
theorem rturn_good (N : Int) (a : Option Addr) (n c : Nat) (ps : List (Int × Int)) (hl : ps.length = n) (w : World) (hn : n ≤ 100000) (hE : Edg w a c ps) (hok : gchk N ps = 0) :
    Calls Try.prog 20 #[.agg #[.int .i64 N, .slice a n c]] w (RTurnEnd w N ps) := by
  have hb0 := ((Below.refl w.heap.size w).alloc (Nat.le_refl _) (Obj.cells #[Value.int .i64 N, Value.slice a n c] 24)).alloc (by simp) (Obj.cells #[Value.int .i64 0, Value.slice none 0 0] 24)
  have hck : Calls Try.prog 12 #[.agg #[.int .i64 N, .slice a n c]] ((w.alloc (Obj.cells #[Value.int .i64 N, Value.slice a n c] 24)).alloc (Obj.cells #[Value.int .i64 0, Value.slice none 0 0] 24)) fun e w' => e = .returned (.int .i64 0) ∧ Below (w.heap.size + 1 + 1) ((w.alloc (Obj.cells #[Value.int .i64 N, Value.slice a n c] 24)).alloc (Obj.cells #[Value.int .i64 0, Value.slice none 0 0] 24)) w' := by
    have := rchk_at N a n c ps 0 hok ((w.alloc (Obj.cells #[Value.int .i64 N, Value.slice a n c] 24)).alloc (Obj.cells #[Value.int .i64 0, Value.slice none 0 0] 24)) hl (by unfold maxLen; omega) (hE.pairs.below hb0 (Nat.le_refl _))
    rw [World.size_alloc, World.size_alloc] at this
    exact this
  have hq0 := QC.new (w.alloc (Obj.cells #[Value.int .i64 N, Value.slice a n c] 24)) (.int .i64 0) (.slice none 0 0) 24
  rw [World.size_alloc] at hq0
  have Hq0 := Lib.hid hq0
  have Hb0 := Lib.hid hb0
  have Hck := Lib.hid hck
  have HE := Lib.hid hE
  have Hl := Lib.hid hl
  have Hfin : Hid (revTo ps n = ps.map revE) := by show _ = _; rw [← hl]; exact revTo_all ps
  clear hck hb0 hE hl hok hq0
  go_enter Try.func20, Try.ntmps20
  go_wp2_with fail
  refine Hck.out.mono ?_
  rintro e w1 ⟨rfl, hb1⟩
  have g0 := (hb1.cell (p := ⟨w.heap.size, 0, none⟩) (by simp; omega)).trans (show _ = some (Value.int .i64 N) by simp [go_sem])
  have g1 := (hb1.cell (p := ⟨w.heap.size, 1, none⟩) (by simp; omega)).trans (show _ = some (Value.slice a n c) by simp [go_sem])
  have hz1 : w.heap.size + 2 ≤ w1.heap.size := by have := hb1.size; simp at this; omega
  have Hq1 := Lib.hid (Hq0.out.below hb1 (by omega))
  have Hb1 := Lib.hid (Hb0.out.trans (hb1.mono (by omega)))
  clear hb1
  go_wp2
  go_loopw [3, 4] (fun u i wr => ∃ (k : Nat), k ≤ n ∧ i = .int .i64 k ∧ OwnP wr w1.heap.size u (revTo ps k) ∧ Below w1.heap.size w1 wr) (fun _ i _ => n - (intOf i).toNat)
  case atStart => exact ⟨0, Nat.zero_le _, rfl, OwnP.nil _ _, .refl _ _⟩
  case round =>
    obtain ⟨k, hk, rfl, hown, hb⟩ := hrel
    have Hown := Lib.hid hown
    have Hb := Lib.hid hb
    have hsz := hb.size
    have k0 := (hb.cell (p := ⟨w.heap.size, 0, none⟩) (by show w.heap.size < _; omega)).trans g0
    have k1 := (hb.cell (p := ⟨w.heap.size, 1, none⟩) (by show w.heap.size < _; omega)).trans g1
    by_cases hlt : k < n
    · obtain ⟨b, off, rfl, hcell⟩ := (HE.out.pairs.below (Hb1.out.trans (Hb.out.mono (by omega))) (Nat.le_refl _)) (by rw [Hl.out]; omega)
      obtain ⟨hcx, hcy⟩ := hcell k (by rw [Hl.out]; exact hlt)
      have hps := revTo_succ (show k < ps.length by rw [Hl.out]; exact hlt)
      have hpl := length_revTo ps k (by rw [Hl.out]; exact hk)
      obtain ⟨⟨x, y⟩, he⟩ : ∃ e, ps.getD k (0, 0) = e := ⟨_, rfl⟩
      rw [he] at hcx hcy hps
      have Hps := Lib.hid hps
      have Hpl := Lib.hid hpl
      clear he hcell hown hb hps hpl
      go_wp2
      go_region_law (refine step_append_pair rfl _ _ rfl w1.heap.size _ _ rfl ((OwnP.alloc Hown.out _).drew) wr.heap.size (y, x) rfl (by simp [go_sem]) (by simp [go_sem]) (by rw [Hpl.out]; omega) (by simp; omega) ?_; intro v' w5 hown5 hg5)
      all_goals
        have Hown5 := Lib.hid hown5
        have Hb5 : Hid (Below w1.heap.size w1 w5) := ((Hb.out.alloc hsz _).drew).grown hg5 (by simp; omega) (fun r hr => (World.ownsRow.lt Hown.out r hr).1)
        clear hown5 hg5
        go_wp2
        go_roundw
        case rel => exact ⟨k + 1, by omega, by go_num, by rw [Hps.out]; exact Hown5.out, Hb5.out⟩
        case measure => simp [intOf]; omega
    · obtain rfl : k = n := by omega
      have hpl : (revTo ps k).length = k := length_revTo ps k (by rw [Hl.out]; exact Nat.le_refl _)
      obtain ⟨a1, k1', e1, hE1⟩ := OwnP.edg hown
      rw [hpl] at e1
      subst e1
      have hsrt : ∀ X, Below wr.heap.size wr X → Calls Try.prog 36 #[.slice a1 k k1'] X (SortEnd X (revTo ps k)) := fun X hX =>
        sorted_any k a1 k k1' (revTo ps k) X hpl (Nat.le_refl _) hn (hE1.below hX (Nat.le_refl _))
      rw [Hfin.out] at hsrt
      have Hsrt := Lib.hid hsrt
      have hz2 : w.heap.size + 1 < wr.heap.size := by omega
      have hD0 : Below wr.heap.size wr wr.drew := Drawn.below ⟨1, rfl⟩ _
      have hS0 : wr.drew.cell? ⟨w.heap.size, 0, none⟩ = some (.int .i64 N) ∧ Below (w.heap.size + 1) wr wr.drew := ⟨k0, Drawn.below ⟨1, rfl⟩ _⟩
      clear hown hb hpl hsrt hE1
      go_wp2
      go_region_held3 (fun X => X.cell? ⟨w.heap.size, 0, none⟩ = some (.int .i64 N) ∧ Below (w.heap.size + 1) wr X)
        (first
          | with_reducible assumption
          | with_reducible exact hSF _ _
          | fail)
        (first | (go_at_call 36; (with_reducible refine Calls.mono (Hsrt.out _ hD0) ?_); rintro e wA ⟨v2, qs, rfl, ho2, hle, hcan, hb2⟩; have Ho2 := Lib.hid (ho2.mono (b := wr.heap.size) hD0.size); obtain ⟨a2, k2, rfl, _⟩ := ho2.shape; have hbA : Below wr.heap.size wr wA := hD0.trans (hb2.mono hD0.size); have hSA : wA.cell? ⟨w.heap.size, 0, none⟩ = some (.int .i64 N) ∧ Below (w.heap.size + 1) wr wA := ⟨(hbA.cell (p := ⟨w.heap.size, 0, none⟩) (by show w.heap.size < _; omega)).trans k0, hbA.mono (by omega)⟩; have hSF : ∀ u v, ((wA.setCell ⟨w.heap.size + 1, 0, none⟩ u).setCell ⟨w.heap.size + 1, 1, none⟩ v).cell? ⟨w.heap.size, 0, none⟩ = some (.int .i64 N) ∧ Below (w.heap.size + 1) wr ((wA.setCell ⟨w.heap.size + 1, 0, none⟩ u).setCell ⟨w.heap.size + 1, 1, none⟩ v) := fun u v => ⟨((below_set2 hSA.2 (Nat.le_refl _) u v).cell (p := ⟨w.heap.size, 0, none⟩) (by show w.heap.size < _; omega)).trans k0, below_set2 hSA.2 (Nat.le_refl _) u v⟩; have hqc := Hq1.out.below (Hb.out.trans (hbA.mono hsz)) (by omega); have e0 := hqc.c0; have e1 := hqc.c1; have e2 := hqc.f0; have e3 := hqc.f1))
      have hqf := hqc.set (.int .i64 N) (.slice a2 qs.length k2)
      have i0 := hqf.c0
      have i1 := hqf.c1
      have hbf := Lib.hid (below_set2 (D := w.heap.size) (B := w.heap.size + 1) (Hb1.out.trans ((Hb.out.trans (hbA.mono hsz)).mono (by omega))) (by omega) (.int .i64 N) (.slice a2 qs.length k2))
      obtain ⟨a3, k3, e3, hp3⟩ := (OwnP.kept Ho2.out (grown_trans (grown_setCell wA (w.heap.size + 1) 0 (.int .i64 N)) (grown_setCell _ (w.heap.size + 1) 1 (.slice a2 qs.length k2))) hz2).shape
      simp only [Value.slice.injEq] at e3
      obtain ⟨rfl, _, rfl⟩ := e3
      have Hp3 := Lib.hid hp3
      have Hcan := Lib.hid hcan
      have Hle : Hid (qs.length ≤ ps.length) := by
        show _ ≤ _
        rw [List.length_map] at hle
        exact hle
      clear hp3 hcan hle hqf hqc hb2 hbA hSA hSF ho2 hS0 hD0
      go_wp2
      refine bodyPost_ret (v := .agg #[.int .i64 N, .slice a2 qs.length k2]) (by simp [results, Try.results20, go_sem, i0, i1]) rfl ?_
      exact ⟨hbf.out, qs, a2, k2, Hcan.out, Hle.out, Hp3.out, rfl⟩
end Go.Proofs.Ythgnbpiemkcdhaa
