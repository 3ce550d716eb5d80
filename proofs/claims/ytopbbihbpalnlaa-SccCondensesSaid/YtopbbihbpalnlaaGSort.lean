/-
  slices.SortFunc at edges, by byEnds: the row holds the same edges, in order.
-/
import Derived.Test.YtopbbihbpalnlaaShelfP
import Derived.Test.YtopbbihbpalnlaaGSucc
namespace Go.Proofs.Ytopbbihbpalnlaa
open Go.RowKit Go.Shelf Go.Lib Go.Sort
set_option linter.unusedVariables false

/-- Block g holds the pairs ps, and may be written. -/
structure RP (w : World) (g : Nat) (ps : List (Int × Int)) : Prop where
  lt : g < w.heap.size
  c0 : ∀ i, i < ps.length → w.cell? ⟨g, i * 2, none⟩ = some (.int .i64 (ps.getD i (0, 0)).1)
  c1 : ∀ i, i < ps.length → w.cell? ⟨g, i * 2 + 1, none⟩ = some (.int .i64 (ps.getD i (0, 0)).2)
  free : ∀ j, w.frozen? ⟨g, j, none⟩ = false
theorem RP.pairs {w : World} {g : Nat} {ps : List (Int × Int)} (h : RP w g ps) : Pairs w (some ⟨g, 0, none⟩) ps := fun _ => ⟨g, 0, rfl, fun i hi => ⟨by rw [Nat.zero_add]; exact h.c0 i hi, by rw [Nat.zero_add]; exact h.c1 i hi⟩⟩
theorem OwnP.rp {w : World} {base g c : Nat} {ps : List (Int × Int)} (h : OwnP w base (.slice (some ⟨g, 0, none⟩) ps.length c) ps) : RP w g ps := by
  have hc := World.ownsRow.cells h (g := g) rfl
  refine ⟨(World.ownsRow.lt h g rfl).2, fun i hi => ?_, fun i hi => ?_, fun j => World.ownsRow.frozenAt h j⟩
  · have := hc _ _ (cellsOf2_at ps i hi).1
    rwa [Addr.add_lit, Nat.zero_add] at this
  · have := hc _ _ (cellsOf2_at ps i hi).2
    rwa [Addr.add_lit, Nat.zero_add] at this

def encE (e : Int × Int) : List Value := [.int .i64 e.1, .int .i64 e.2]
theorem getB (ps : List (Int × Int)) (i : Nat) (h : i < ps.length) : ps.toArray[i]! = ps.getD i (0, 0) := by
  simp [List.getD_eq_getElem?_getD, h]
theorem RP.holds {w : World} {g : Nat} {ps : List (Int × Int)} (h : RP w g ps) : HoldsK encE 2 w g 0 ps.toArray := by
  intro j hj
  rw [size_flatK] at hj
  have hj2 : j / 2 < ps.length := by simp at hj; omega
  rw [get_flatK _ _ _ _ hj, Nat.zero_add, getB ps _ hj2]
  refine ⟨?_, h.free j⟩
  rcases Nat.mod_two_eq_zero_or_one j with e | e
  · rw [e]
    have := h.c0 (j / 2) hj2
    rw [show j / 2 * 2 = j by omega] at this
    rw [this]; rfl
  · rw [e]
    have := h.c1 (j / 2) hj2
    rw [show j / 2 * 2 + 1 = j by omega] at this
    rw [this]; rfl
theorem RP.of_holds {w : World} {g : Nat} {d : Array (Int × Int)} (h : HoldsK encE 2 w g 0 d) (hl : g < w.heap.size) (hf : ∀ j, w.frozen? ⟨g, j, none⟩ = false) : RP w g d.toList := by
  have gd : ∀ i, i < d.size → d[i]! = d.toList.getD i (0, 0) := fun i hi => by simp [List.getD_eq_getElem?_getD, hi]
  refine ⟨hl, fun i hi => ?_, fun i hi => ?_, hf⟩
  · have := (h.cell (i := i) (c := 0) (by simpa using hi) (by omega)).1
    rw [Nat.zero_add, Nat.add_zero, gd i (by simpa using hi)] at this
    rw [this]; rfl
  · have := (h.cell (i := i) (c := 1) (by simpa using hi) (by omega)).1
    rw [Nat.zero_add, gd i (by simpa using hi)] at this
    rw [this]; rfl
theorem frozen_grow (w : World) (os : Array Obj) (q : Addr) (h : q.block < w.heap.size) : (grow w os).frozen? q = w.frozen? q :=
  World.frozen?_of_block (w := w) (by show (w.heap ++ os)[q.block]? = _; exact Array.getElem?_append_left h)
theorem sort_frame (w : World) (g n : Nat) (d : Array (Int × Int)) (os : Array Obj) : w.grownBy (sortWorldK encE 2 w g 0 n d os) (some g) := by
  refine ⟨rfl, rfl, rfl, ?_, fun k hk hne => ?_⟩
  · show w.heap.size ≤ ((w.heap.modify g _) ++ os).size
    simp
  · show ((w.heap.modify g _) ++ os)[k]? = w.heap[k]?
    rw [Array.getElem?_append_left (by simpa using hk), Array.getElem?_modify, if_neg (fun e => hne (by rw [e]))]
theorem ltOf_cmpE (x y : Int × Int) : ltOf cmpE x y = ltE x y := by
  unfold ltOf
  rw [Bool.eq_iff_iff]
  simp only [decide_eq_true_eq]
  exact cmpE_neg x y
theorem ltE_iff {a b : Int × Int} : ltE a b = true ↔ a.1 < b.1 ∨ (a.1 = b.1 ∧ a.2 < b.2) := by
  unfold ltE; simp
theorem ltE_not {a b : Int × Int} : ltE a b = false ↔ ¬ (a.1 < b.1 ∨ (a.1 = b.1 ∧ a.2 < b.2)) := by
  rw [← ltE_iff]; simp
theorem lt_swo : SWO (ltOf cmpE) where
  irrefl x := by rw [ltOf_cmpE, ltE_not]; omega
  trans x y z h1 h2 := by rw [ltOf_cmpE, ltE_iff] at *; omega
  ntrans x y z h1 h2 := by rw [ltOf_cmpE, ltE_not] at *; omega
theorem cmp_lays (g size : Nat) (w : World) : CmpLays Try.prog 47 #[] encE 2 cmpE g 0 size w :=
  fun _ _ _ _ x y => byEnds_any x.1 x.2 y.1 y.2 _

theorem sort_any (g c : Nat) (ps : List (Int × Int)) (w : World) (h : RP w g ps) (hn : ps.length ≤ 100000) :
    Calls Try.prog 54 #[.slice (some ⟨g, 0, none⟩) ps.length c, .func (.func 47) #[] #[]] w fun e w' =>
      e = .returned (.tuple #[]) ∧ ∃ qs, RP w' g qs ∧ qs.Perm ps ∧ (∀ i j, i < j → j < ps.length → ltE (qs.getD j (0, 0)) (qs.getD i (0, 0)) = false) ∧ w.grownBy w' (some g) := by
  have eg : ∀ args w, (callFunc 47 args).run Try.prog w = .ok (.enter 47 args) w := enters_of Try.func47 (by kernel_rfl) rfl
  have hcon := AnyQ.slices_SortFunc Try.sortE 2 Try.isAgg44 Try.sizeOf44 encE (fun _ => rfl) (fun x v hv => by simp [encE] at hv; rcases hv with rfl | rfl <;> rfl) cmpE lt_swo 47 #[] g 0 c ps.toArray w eg (cmp_lays g _ w) h.holds h.lt (by simp; omega)
  change Calls Try.prog 54 #[.slice (some ⟨g, 0, none⟩) ps.toArray.size c, .func (.func 47) #[] #[]] w _ at hcon
  rw [show ps.toArray.size = ps.length by simp] at hcon
  refine hcon.mono ?_
  rintro e w' ⟨rfl, d', n, os, hp, hs, rfl⟩
  have hsz : d'.size = ps.length := by simpa using hp.1
  have hH : HoldsK encE 2 (sortWorldK encE 2 w g 0 n d' os) g 0 d' := holdsK_grow encE 2 _ os g 0 d' (by rw [size_putRowK]; exact h.lt) (holdsK_putRowK encE 2 (Sort.ahead w n) g 0 ps.toArray d' h.holds (by simpa using hp.1))
  have hf : ∀ j, (sortWorldK encE 2 w g 0 n d' os).frozen? ⟨g, j, none⟩ = false := fun j => by
    unfold sortWorldK
    rw [frozen_grow _ _ _ (by rw [size_putRowK]; exact h.lt)]
    unfold putRowK
    rw [frozen?_putRow]
    exact h.free j
  have hg := sort_frame w g n d' os
  refine ⟨rfl, d'.toList, RP.of_holds hH (Nat.lt_of_lt_of_le h.lt hg.size) hf, ?_, fun i j hij hj => ?_, hg⟩
  · have := hp.2.2
    simp only [Array.toList_extract, List.extract_eq_take_drop, Nat.sub_zero, List.drop_zero] at this
    rw [List.take_of_length_le (by simp [hsz]), List.take_of_length_le (by simp)] at this
    exact this
  · have := hs i j (Nat.zero_le _) hij (by simpa using hj)
    rw [ltOf_cmpE] at this
    simpa [List.getD_eq_getElem?_getD, hsz, hj, show i < ps.length by omega] using this
end Go.Proofs.Ytopbbihbpalnlaa
