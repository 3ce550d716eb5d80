/-
  (tree).loop: the nodes of a natural loop.
-/
import Derived.Test.YtcmliokkamgcdaaDAdL
import Derived.Test.YtcmliokkamgcdaaDSdm
import Derived.Test.YtcmliokkamgcdaaGSortI
namespace Go.Proofs.Ytcmliokkamgcdaa
open Go.RowKit Go.Shelf
set_option linter.unusedVariables false

/-- The walk over the list, which grows. -/
def walkT (pr : Nat → List Nat) (sz : List Int) : Nat → Nat → List Bool × List Nat → List Bool × List Nat
  | 0, _, st => st
  | f + 1, i, st => if i < st.2.length then walkT pr sz f (i + 1) ((pr (st.2.getD i 0)).foldl (addT sz) st) else st
def loop0 (N head : Nat) : List Bool × List Nat := ((List.replicate N false).set head true, [head])
def loopS (N : Nat) (pr : Nat → List Nat) (sz : List Int) (head : Nat) (starts : List Nat) : List Bool × List Nat := walkT pr sz (N + 1) 1 (starts.foldl (addT sz) (loop0 N head))
def sortN (l : List Nat) : List Int := (ni l).mergeSort fun x y => decide (x ≤ y)
/-- What the lists of the walk keep. -/
structure LInv (N : Nat) (st : List Bool × List Nat) : Prop where
  len : st.1.length = N
  node : ∀ x ∈ st.2, x < N
  cnt : st.1.countP (fun b => !b) + st.2.length = N
theorem countP_set' (l : List Bool) (i : Nat) (hi : i < l.length) (h : l.getD i false = false) : (l.set i true).countP (fun b => !b) + 1 = l.countP (fun b => !b) := by
  induction l generalizing i with
  | nil => simp at hi
  | cons a r ih =>
    cases i with
    | zero =>
      simp at h
      subst h
      simp
    | succ i =>
      have := ih i (by simpa using hi) (by simpa using h)
      simp only [List.set_cons_succ, List.countP_cons]
      omega
theorem LInv.add {N : Nat} {sz : List Int} {st : List Bool × List Nat} (h : LInv N st) {v : Nat} (h1 : v < N) : LInv N (addT sz st v) := by
  unfold addT
  split
  · rename_i e
    have hlt : v < st.1.length := by rw [h.len]; exact h1
    refine ⟨by simpa using h.len, fun x hx => ?_, ?_⟩
    · rcases List.mem_append.1 hx with hx | hx
      · exact h.node x hx
      · rw [List.mem_singleton.1 hx]; exact h1
    · have := countP_set' st.1 v hlt e.1
      have := h.cnt
      simp only [List.length_append, List.length_singleton]
      omega
  · exact h
theorem LInv.fold {N : Nat} {sz : List Int} : ∀ {l : List Nat} {st : List Bool × List Nat}, LInv N st → (∀ x ∈ l, x < N) → LInv N (l.foldl (addT sz) st)
  | [], _, h, _ => h
  | x :: r, st, h, hl => LInv.fold (l := r) (st := addT sz st x) (h.add (hl x (by simp))) fun y hy => hl y (List.mem_cons_of_mem _ hy)
theorem LInv.le {N : Nat} {st : List Bool × List Nat} (h : LInv N st) : st.2.length ≤ N := by have := h.cnt; omega
theorem LInv.start {N head : Nat} (h : head < N) : LInv N (loop0 N head) := by
  have := countP_set' (List.replicate N false) head (by simpa using h) (by simp [List.getD_eq_getElem?_getD, h])
  refine ⟨by simp [loop0], fun x hx => ?_, ?_⟩
  · have : x = head := by simpa [loop0] using hx
    omega
  · simp only [loop0, List.length_singleton]
    simp [List.countP_replicate] at this
    simpa using this
theorem addT_len {sz : List Int} {st : List Bool × List Nat} {v : Nat} : st.2.length ≤ (addT sz st v).2.length := by
  unfold addT; split <;> simp
theorem fold_len {sz : List Int} : ∀ {l : List Nat} {st : List Bool × List Nat}, st.2.length ≤ (l.foldl (addT sz) st).2.length
  | [], _ => Nat.le_refl _
  | x :: r, st => Nat.le_trans addT_len (fold_len (l := r))
theorem walkT_go {pr : Nat → List Nat} {sz : List Int} {f i : Nat} {st : List Bool × List Nat} (h : i < st.2.length) : walkT pr sz (f + 1) i st = walkT pr sz f (i + 1) ((pr (st.2.getD i 0)).foldl (addT sz) st) := by
  show (if _ then _ else _) = _
  rw [if_pos h]
theorem walkT_end {pr : Nat → List Nat} {sz : List Int} {f i : Nat} {st : List Bool × List Nat} (h : ¬ i < st.2.length) : walkT pr sz f i st = st := by
  cases f with
  | zero => rfl
  | succ f => show (if _ then _ else _) = _; rw [if_neg h]

def LoopEnd (w : World) (l : List Nat) (e : Ending) (w' : World) : Prop := ∃ r, e = .returned r ∧ Own w' w.heap.size r (sortN l) ∧ Below w.heap.size w w'

set_option maxHeartbeats 4000000 in
set_option maxRecDepth 100000 in
theorem loop_any (N head : Nat) (pr : Nat → List Nat) (sz : List Int) (starts : List Nat) (u1 u2 : Value) (gs cs G cG : Nat) (a : Option Addr) (c : Nat) (w : World) (hN : N ≤ 8192) (hh : head < N) (hls : sz.length = N)
    (hpr : ∀ x, ∀ y ∈ pr x, y < N) (hpl : ∀ x, (pr x).length ≤ 100000) (hst : ∀ y ∈ starts, y < N) (hsl : starts.length ≤ 100000)
    (hS : Ints w (some ⟨gs, 0, none⟩) sz) (hG : RowsI w G N pr) (hA : Ints w a (ni starts)) :
    Calls Try.prog 39 #[.agg #[u1, u2, .slice (some ⟨gs, 0, none⟩) N cs], .slice (some ⟨G, 0, none⟩) N cG, .int .i64 (head : Int), .slice a starts.length c] w (LoopEnd w (loopS N pr sz head starts).2) := by
  obtain ⟨i0, hi, hz0, hz1, hz2⟩ := info_parts (show (Try.prog.info? 4).map (fun i => (i.zero, i.size, i.bytes)) = some (some (.bool false), 1, 1) from by kernel_rfl)
  obtain ⟨ns, hns⟩ : ∃ n, starts.length = n := ⟨_, rfl⟩
  have Hns := Lib.hid hns
  rw [hns] at hsl ⊢
  have hgs : gs < w.heap.size := World.block_lt_of_cell? _ _ (ints_cell hS (i := head) (by rw [hls]; exact hh))
  have HS := Lib.hid hS
  have HG := Lib.hid hG
  have HA := Lib.hid hA
  clear hS hG hA hns
  go_enter Try.func39, Try.ntmps39
  go_wp2_with (at_make; refine wpList_make_full _ rfl _ _ 46 rfl 0 4 i0 (.bool false) 1 Try.underlying46 hi hz0 hz1 _ _ _ _ N rfl rfl rfl rfl ?c1 ?c2 ?c3 ?_)
  case c1 => rw [hz2]; omega
  case c2 => unfold maxLen; omega
  case c3 => exact Nat.zero_le _
  obtain ⟨w2, hw2⟩ : ∃ w2, ((w.alloc (Obj.cells #[u1, u2, .slice (some ⟨gs, 0, none⟩) N cs] 54)).alloc (Obj.cells #[.int .i64 (head : Int)] 3)).alloc (Obj.cells #[.slice (some ⟨w.heap.size + 1, 0, none⟩) 1 1] 25) = w2 := ⟨_, rfl⟩
  have hz2' : w2.heap.size = w.heap.size + 1 + 1 + 1 := by rw [← hw2]; simp
  have hb2 : Below w.heap.size w w2 := by rw [← hw2]; exact (((Below.refl w.heap.size w).alloc (Nat.le_refl _) _).alloc (by simp) _).alloc (by simp; omega) _
  have t0 : w2.cell? ⟨w.heap.size, 0, none⟩ = some u1 := by rw [← hw2]; simp [go_sem]
  have t1 : w2.cell? ⟨w.heap.size, 1, none⟩ = some u2 := by rw [← hw2]; simp [go_sem]
  have t2 : w2.cell? ⟨w.heap.size, 2, none⟩ = some (.slice (some ⟨gs, 0, none⟩) N cs) := by rw [← hw2]; simp [go_sem]
  have l0 : w2.cell? ⟨w.heap.size + 1 + 1, 0, none⟩ = some (.slice (some ⟨w.heap.size + 1, 0, none⟩) 1 1) := by rw [← hw2]; simp [go_sem]
  have lf : w2.frozen? ⟨w.heap.size + 1 + 1, 0, none⟩ = false := by rw [← hw2]; simp [go_sem]
  have own0 : Own w2 w.heap.size (.slice (some ⟨w.heap.size + 1, 0, none⟩) 1 1) [(head : Int)] := by
    rw [← hw2]
    have h1 := World.ownsRow_lit (base := w.heap.size) (e := 3) (size := 1) (w.alloc (Obj.cells #[u1, u2, .slice (some ⟨gs, 0, none⟩) N cs] 54)) #[.int .i64 (head : Int)] 1 (by simp) (by decide) rfl
    rw [World.size_alloc] at h1
    exact World.ownsRow.alloc h1 _
  rw [hw2]
  clear hw2
  intro w3 hown hg3
  generalize hR : w.heap.size + 1 + 1 + 1 = R at *
  generalize hL : w.heap.size + 1 + 1 = L at *
  have hrow : RowB w3 0 R (List.replicate N false) := by
    unfold RowB
    rw [List.length_replicate, show (List.replicate N false).map Value.bool = (madeCells #[Value.bool false] N).toList by rw [toList_madeCells_one]; simp]
    exact hown
  have hs3 := hg3.size
  have lR := (World.ownsRow.lt hown R rfl).2
  have d : AD w.heap.size L R w3.heap.size w.heap.size gs N sz := ⟨hgs, by omega, by omega, by omega, by omega, by omega, by omega, by omega, by omega, by omega, hls⟩
  have hb3 : Below w.heap.size w w3 := hb2.grown hg3 (by omega) (fun q e => by cases e)
  have f3 : ∀ q i, q < w2.heap.size → w3.cell? ⟨q, i, none⟩ = w2.cell? ⟨q, i, none⟩ ∧ w3.frozen? ⟨q, i, none⟩ = w2.frozen? ⟨q, i, none⟩ := fun q i hq => ⟨hg3.cell_far ⟨q, i, none⟩ hq (by simp), hg3.frozen_far ⟨q, i, none⟩ hq (by simp)⟩
  obtain ⟨w4, hw4⟩ : ∃ w4, (w3.setCell ⟨R, head, none⟩ (.bool true)).alloc (Obj.cells #[.slice (some ⟨R, 0, none⟩) N N] 46) = w4 := ⟨_, rfl⟩
  have hgs4 := grown_setCell w3 R head (.bool true)
  have hrow4 : RowB w4 0 R ((List.replicate N false).set head true) := by rw [← hw4]; exact World.ownsRow.alloc (hrow.set head true) _
  have hb4 : Below R w3 w4 := by rw [← hw4]; exact ((Below.refl R w3).setCell (p := ⟨R, head, none⟩) (Nat.le_refl _) _).alloc (by simp; omega) _
  have f4 : ∀ q i, q < w2.heap.size → w4.cell? ⟨q, i, none⟩ = w2.cell? ⟨q, i, none⟩ ∧ w4.frozen? ⟨q, i, none⟩ = w2.frozen? ⟨q, i, none⟩ := fun q i hq => ⟨(hb4.cell (p := ⟨q, i, none⟩) (by show q < _; omega)).trans (f3 q i hq).1, by
    have : w4.frozen? ⟨q, i, none⟩ = w3.frozen? ⟨q, i, none⟩ := by
      rw [← hw4]
      rw [World.frozen?_alloc_past _ q i (by simp; omega), World.frozen?_setCell]
    exact this.trans (f3 q i hq).2⟩
  have m4 : w4.cell? ⟨w3.heap.size, 0, none⟩ = some (.slice (some ⟨R, 0, none⟩) N N) := by rw [← hw4]; simp [go_sem]
  have r3 := hrow.cell (i := head) (by simpa using hh)
  rw [show (List.replicate N false).getD head false = false by simp [List.getD_eq_getElem?_getD, hh]] at r3
  have fr3 := hrow.free head
  have hB5 : Below w.heap.size w w4 := hb3.trans (hb4.mono (by omega))
  have hAS5 : AS w4 w.heap.size L R w3.heap.size w.heap.size gs N u1 u2 cs sz (.slice (some ⟨w.heap.size + 1, 0, none⟩) 1 1) (loop0 N head) :=
    ⟨⟨m4, hrow4, by simp [loop0], (f4 _ 0 (by omega)).1.trans t0, (f4 _ 1 (by omega)).1.trans t1, (f4 _ 2 (by omega)).1.trans t2, HS.out.below hB5 (Nat.le_refl _)⟩, (f4 _ 0 (by omega)).1.trans l0, (f4 _ 0 (by omega)).2.trans lf, World.ownsRow.kept (World.ownsRow.kept own0 hg3 (.inr (by simp [Value.ownBlock]))) (show w3.grownBy w4 (some R) from ⟨hb4.os, hb4.tape, hb4.output, hb4.size, fun q hq hne => by
      rw [← hw4, Below.heap_alloc _ _ q (by simpa using hq), Below.heap_setCell w3 ⟨R, head, none⟩ _ q (by intro e; exact hne (by rw [e]))]⟩) (.inr (by simp [Value.ownBlock]; omega)), fun q e => by
      have e : w.heap.size + 1 = q := by simpa [Value.ownBlock] using e
      omega, hB5.size⟩
  have HAS5 := Lib.hid hAS5
  have HB5 := Lib.hid hB5
  have HD := Lib.hid d
  have hI0 := LInv.start hh
  have HI0 := Lib.hid hI0
  have Hw4 := Lib.hid hw4
  clear hown hg3 hrow hb2 t0 t1 t2 l0 lf own0 hb3 f3 hb4 f4 hrow4 hAS5 d hI0 hw4 hgs4 hB5
  go_wp2_with fail
  rw [Hw4.out]
  have hS0 : (starts.foldl (addT sz) (loop0 N head)) = starts.foldl (addT sz) (loop0 N head) := rfl
  have hcall := addT_any w.heap.size L R w3.heap.size w.heap.size gs N u1 u2 cs sz HD.out hN _ (loop0 N head) a c starts hst _ HAS5.out ⟨w, HA.out, HB5.out, Nat.le_refl _⟩ (by rw [Hns.out]; omega) (fun k _ => by
    have := (HI0.out.fold (sz := sz) (l := starts.take k) (fun x hx => hst x (List.mem_of_mem_take hx))).le
    omega)
  rw [Hns.out] at hcall
  refine hcall.mono ?_
  rintro e w5 ⟨rfl, u5, h5, hb5⟩
  have H5 := Lib.hid h5
  have HB6 := Lib.hid (HB5.out.trans hb5)
  have HI5 := Lib.hid (HI0.out.fold (sz := sz) (l := starts) hst)
  have HW5 : Hid (walkT pr sz (N + 1) 1 (starts.foldl (addT sz) (loop0 N head)) = loopS N pr sz head starts) := rfl
  have hlen1 : 1 ≤ (starts.foldl (addT sz) (loop0 N head)).2.length := Nat.le_trans (by simp [loop0]) fold_len
  generalize starts.foldl (addT sz) (loop0 N head) = s5 at *
  clear hcall hS0 h5 hb5 HAS5 HB5 m4 r3 fr3 HI0 Hw4
  go_wp2
  go_loopw [12] (fun x W => ∃ (i f : Nat) (u : Value) (sx : List Bool × List Nat), x = .int .i64 (i : Int) ∧ f + i = N + 2 ∧ i ≤ N + 1 ∧ Hid (AS W w.heap.size L R w3.heap.size w.heap.size gs N u1 u2 cs sz u sx) ∧ Hid (Below w.heap.size w W) ∧ Hid (LInv N sx) ∧ Hid (walkT pr sz f i sx = loopS N pr sz head starts)) (fun x _ => N + 2 - (intOf x).toNat)
  case atStart => exact ⟨1, N + 1, u5, s5, rfl, by omega, by omega, H5, HB6, HI5, HW5⟩
  case round =>
    clear H5 HB6 HI5 HW5 hlen1
    obtain ⟨i, f, u, sx, rfl, hf, hi1, H, HB, HI, HW⟩ := hrel
    obtain ⟨au, cu, rfl, hau⟩ := H.out.own.shape
    obtain ⟨m, hm⟩ : ∃ m, sx.2.length = m := ⟨_, rfl⟩
    have hmN : m ≤ N := by rw [← hm]; exact HI.out.le
    rw [ni_len, hm] at H
    have Hm := Lib.hid hm
    have cL := H.out.box
    by_cases hlt : i < m
    · obtain ⟨v, hv⟩ : ∃ v, sx.2.getD i 0 = v := ⟨_, rfl⟩
      have hil : i < sx.2.length := by rw [hm]; exact hlt
      have hvN : v < N := HI.out.node v (by rw [← hv]; exact at_mem hil)
      obtain ⟨bu, ou, rfl, hcu⟩ := hau (by rw [ni_len]; omega)
      have cV := hcu i (by rw [ni_len]; exact hil)
      rw [show (ni sx.2).getD i 0 = ((v : Nat) : Int) by rw [← hv]; unfold ni; simp [List.getD_eq_getElem?_getD, hil]] at cV
      obtain ⟨ra, rc, cG1, hzr⟩ := HG.out v hvN
      have cG2 := (HB.out.cell (p := ⟨G, v, none⟩) (World.block_lt_of_cell? _ _ cG1)).trans cG1
      obtain ⟨f, rfl⟩ : ∃ f', f = f' + 1 := ⟨f - 1, by omega⟩
      have hcall := addT_any w.heap.size L R w3.heap.size w.heap.size gs N u1 u2 cs sz HD.out hN _ sx ra rc (pr v) (hpr v) _ H.out ⟨w, hzr, HB.out, Nat.le_refl _⟩ (by have := hpl v; omega) (fun k _ => by
        have := (HI.out.fold (sz := sz) (l := (pr v).take k) (fun x hx => hpr v x (List.mem_of_mem_take hx))).le
        omega)
      have hIn := HI.out.fold (sz := sz) (l := pr v) (hpr v)
      have hWn := HW.out
      rw [walkT_go hil, hv] at hWn
      have Hcall := Lib.hid hcall
      have HIn := Lib.hid hIn
      have HWn := Lib.hid hWn
      generalize (pr v).length = q at *
      clear hv hm hau hcu cG1 hzr hcall hIn hWn hil
      go_wp2_with fail
      refine Hcall.out.mono ?_
      rintro e w6 ⟨rfl, u6, h6, hb6⟩
      have H6 := Lib.hid h6
      have HB7 := Lib.hid (HB.out.trans hb6)
      clear h6 hb6 cL cV cG2 Hcall H HB HI HW
      go_wp2
      go_roundw
      case rel => exact ⟨i + 1, f, u6, _, by go_num, by omega, by omega, H6, HB7, HIn, HWn⟩
      case measure => simp [intOf]; omega
    · have hWe := HW.out
      rw [walkT_end (by rw [hm]; exact hlt)] at hWe
      have hcall := sortI_any w.heap.size _ (ni sx.2) wr H.out.own (by rw [ni_len]; omega)
      have hfin : ∀ w9, Own w9 w.heap.size (.slice au m cu) ((ni sx.2).mergeSort fun x y => decide (x ≤ y)) → wr.grownBy w9 (Value.slice au m cu).ownBlock → w9.cell? ⟨L, 0, none⟩ = some (.slice au m cu) ∧ Hid (LoopEnd w (loopS N pr sz head starts).2 (.returned (.slice au m cu)) w9) := fun w9 ho hg =>
        ⟨(hg.cell_far ⟨L, 0, none⟩ H.out.lL (fun e => (H.out.ap L e.symm).1 rfl)).trans H.out.box, ⟨_, rfl, by unfold sortN; rw [← hWe]; exact ho, HB.out.grown hg H.out.sz (fun q hq => (World.ownsRow.lt H.out.own q hq).1)⟩⟩
      have Hcall := Lib.hid hcall
      have Hfin := Lib.hid hfin
      clear hWe hcall hfin hm hau H HB HI HW
      go_wp2_with fail
      refine Hcall.out.mono ?_
      rintro e w9 ⟨rfl, ho9, hg9⟩
      obtain ⟨l9, hend⟩ := Hfin.out w9 ho9 hg9
      clear ho9 hg9 cL Hcall Hfin
      go_wp2
      go_ret
      exact hend.out
end Go.Proofs.Ytcmliokkamgcdaa
