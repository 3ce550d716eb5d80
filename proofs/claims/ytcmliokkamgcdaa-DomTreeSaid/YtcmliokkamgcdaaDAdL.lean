/-
  The closure 'add' of (tree).loop: the reachable nodes of a list that are not inside yet are added.
-/
import Derived.Test.YtcmliokkamgcdaaDExp
import Derived.Test.YtcmliokkamgcdaaDMeas
import Derived.Test.YtcmliokkamgcdaaDTel
import Derived.Test.YtcmliokkamgcdaaDDom
namespace Go.Proofs.Ytcmliokkamgcdaa
open Go.RowKit Go.Shelf
set_option linter.unusedVariables false

/-- A row of bools. -/
def RowB (w : World) (base g : Nat) (bs : List Bool) : Prop := w.ownsRow base 4 1 (.slice (some ⟨g, 0, none⟩) bs.length bs.length) bs.length (bs.map Value.bool)
theorem RowB.cell {w : World} {base g i : Nat} {bs : List Bool} (h : RowB w base g bs) (hi : i < bs.length) : w.cell? ⟨g, i, none⟩ = some (.bool (bs.getD i false)) := by
  rw [World.ownsRow.cellAt h i (by omega)]
  simp [List.getD_eq_getElem?_getD, hi]
theorem RowB.free {w : World} {base g : Nat} {bs : List Bool} (h : RowB w base g bs) (i : Nat) : w.frozen? ⟨g, i, none⟩ = false := World.ownsRow.frozenAt h i
theorem RowB.set {w : World} {base g : Nat} {bs : List Bool} (h : RowB w base g bs) (i : Nat) (b : Bool) : RowB (w.setCell ⟨g, i, none⟩ (.bool b)) base g (bs.set i b) := by
  have := (World.ownsRow.stored h i (.bool b)).1
  unfold RowB
  rw [List.length_set, List.map_set]
  exact this
theorem RowB.kept {w w' : World} {base g : Nat} {bs : List Bool} {row : Option Nat} (h : RowB w base g bs) (hg : w.grownBy w' row) (hne : some g ≠ row) : RowB w' base g bs :=
  World.ownsRow.kept h hg (.inr (by simpa [Value.ownBlock] using hne))

/-- A node is added, if it is not inside and reachable. -/
def addT (sz : List Int) (st : List Bool × List Nat) (v : Nat) : List Bool × List Nat := if st.1.getD v false = false ∧ 0 < sz.getD v 0 then (st.1.set v true, st.2 ++ [v]) else st

/-- The marks (row R in box M) and the tree (box T; its sizes in block gs). -/
structure AM (W : World) (X R M T gs N : Nat) (u1 u2 : Value) (cs : Nat) (sz : List Int) (ins : List Bool) : Prop where
  m : W.cell? ⟨M, 0, none⟩ = some (.slice (some ⟨R, 0, none⟩) N N)
  row : RowB W 0 R ins
  len : ins.length = N
  t0 : W.cell? ⟨T, 0, none⟩ = some u1
  t1 : W.cell? ⟨T, 1, none⟩ = some u2
  t2 : W.cell? ⟨T, 2, none⟩ = some (.slice (some ⟨gs, 0, none⟩) N cs)
  size : Ints W (some ⟨gs, 0, none⟩) sz
/-- With the list (box L, value u). -/
structure AS (W : World) (X L R M T gs N : Nat) (u1 u2 : Value) (cs : Nat) (sz : List Int) (u : Value) (st : List Bool × List Nat) : Prop where
  am : AM W X R M T gs N u1 u2 cs sz st.1
  box : W.cell? ⟨L, 0, none⟩ = some u
  fb : W.frozen? ⟨L, 0, none⟩ = false
  own : Own W X u (ni st.2)
  ap : ∀ q, u.ownBlock = some q → q ≠ L ∧ q ≠ R ∧ q ≠ M ∧ q ≠ T
  sz : X ≤ W.heap.size
/-- How the blocks lie. -/
structure AD (X L R M T gs N : Nat) (sz : List Int) : Prop where
  g : gs < X
  l : X ≤ L
  r : X ≤ R
  m : X ≤ M
  t : X ≤ T
  lr : L ≠ R
  lm : L ≠ M
  lt : L ≠ T
  rm : R ≠ M
  rt : R ≠ T
  ls : sz.length = N
section
variable {W W2 : World} {X L R M T gs N : Nat} {u1 u2 : Value} {cs : Nat} {sz : List Int} {u : Value} {st : List Bool × List Nat} {ins : List Bool}
theorem AM.kept {row : Option Nat} (h : AM W X R M T gs N u1 u2 cs sz ins) (d : AD X L R M T gs N sz) (hg : W.grownBy W2 row) (hr : ∀ r, row = some r → X ≤ r ∧ r ≠ R ∧ r ≠ M ∧ r ≠ T) : AM W2 X R M T gs N u1 u2 cs sz ins := by
  have cM : some M ≠ row := fun e => (hr M e.symm).2.2.1 rfl
  have cT : some T ≠ row := fun e => (hr T e.symm).2.2.2 rfl
  have cR : some R ≠ row := fun e => (hr R e.symm).2.1 rfl
  have cG : some gs ≠ row := fun e => by have := (hr gs e.symm).1; have := d.g; omega
  refine ⟨(hg.cell_far ⟨M, 0, none⟩ (World.block_lt_of_cell? _ _ h.m) cM).trans h.m, h.row.kept hg cR, h.len, (hg.cell_far ⟨T, 0, none⟩ (World.block_lt_of_cell? _ _ h.t0) cT).trans h.t0, (hg.cell_far ⟨T, 1, none⟩ (World.block_lt_of_cell? _ _ h.t1) cT).trans h.t1, (hg.cell_far ⟨T, 2, none⟩ (World.block_lt_of_cell? _ _ h.t2) cT).trans h.t2, fun h0 => ?_⟩
  obtain ⟨b, o, e, hs⟩ := h.size h0
  have hb : b = gs := by injection e with e; injection e with e _ _; exact e.symm
  subst hb
  refine ⟨b, o, e, fun i hi => ?_⟩
  have := hs i hi
  exact (hg.cell_far ⟨b, o + i, none⟩ (World.block_lt_of_cell? _ _ this) cG).trans this
theorem AS.lL (h : AS W X L R M T gs N u1 u2 cs sz u st) : L < W.heap.size := World.block_lt_of_cell? _ _ h.box
theorem AS.grow (h : AS W X L R M T gs N u1 u2 cs sz u st) (d : AD X L R M T gs N sz) (hb : Below W.heap.size W W2) : AS W2 X L R M T gs N u1 u2 cs sz u st := by
  have hg : W.grownBy W2 none := grown_of_below hb
  exact ⟨h.am.kept d hg (fun r e => by cases e), (hg.cell_far ⟨L, 0, none⟩ h.lL (by simp)).trans h.box, (hg.frozen_far ⟨L, 0, none⟩ h.lL (by simp)).trans h.fb, h.own.below hb (Nat.le_refl _), h.ap, Nat.le_trans h.sz hg.size⟩
theorem AS.drewN (h : AS W X L R M T gs N u1 u2 cs sz u st) (n : Nat) : AS (W.drewN n) X L R M T gs N u1 u2 cs sz u st :=
  ⟨⟨h.am.m, h.am.row, h.am.len, h.am.t0, h.am.t1, h.am.t2, h.am.size⟩, h.box, h.fb, h.own, h.ap, h.sz⟩
theorem ownI_ne {zs : List Int} (h : Own W X u zs) (q : Nat) (n : u.ownBlock ≠ some q) : u.ownBlock = none ∨ u.ownBlock ≠ some q := by
  cases hu : u.ownBlock with
  | none => exact .inl rfl
  | some k => exact .inr fun e => n (hu.trans e)
/-- A mark is set. -/
theorem AS.mark (h : AS W X L R M T gs N u1 u2 cs sz u st) (d : AD X L R M T gs N sz) (v : Nat) : AS (W.setCell ⟨R, v, none⟩ (.bool true)) X L R M T gs N u1 u2 cs sz u (st.1.set v true, st.2) := by
  have hg := grown_setCell W R v (.bool true)
  have o : ∀ q i, q ≠ R → (W.setCell ⟨R, v, none⟩ (.bool true)).cell? ⟨q, i, none⟩ = W.cell? ⟨q, i, none⟩ := fun q i hq => World.cell?_setCell_other _ _ _ _ (by intro e; injection e with e1 e2; exact hq e1.symm)
  refine ⟨⟨(o M 0 (Ne.symm d.rm)).trans h.am.m, h.am.row.set v true, by rw [List.length_set]; exact h.am.len, (o T 0 (Ne.symm d.rt)).trans h.am.t0, (o T 1 (Ne.symm d.rt)).trans h.am.t1, (o T 2 (Ne.symm d.rt)).trans h.am.t2, fun h0 => ?_⟩, (o L 0 d.lr).trans h.box, by rw [World.frozen?_setCell]; exact h.fb, World.ownsRow.kept h.own hg (ownI_ne h.own R (fun e => (h.ap R e).2.1 rfl)), h.ap, by simpa using h.sz⟩
  obtain ⟨b, oo, e, hs⟩ := h.am.size h0
  have hb : b = gs := by injection e with e; injection e with e _ _; exact e.symm
  subst hb
  exact ⟨b, oo, e, fun i hi => (o b (oo + i) (by have := d.g; have := d.r; omega)).trans (hs i hi)⟩
/-- The list has grown, and lies in its box. -/
theorem AS.push {g cap n : Nat} {zs : List Nat} (h : AS W X L R M T gs N u1 u2 cs sz u st) (d : AD X L R M T gs N sz) (hg : W.grownBy W2 u.ownBlock) (ho : Own W2 X (.slice (some ⟨g, 0, none⟩) n cap) (ni zs)) (hat : u.ownBlock = some g ∨ W.heap.size ≤ g) :
    AS (W2.setCell ⟨L, 0, none⟩ (.slice (some ⟨g, 0, none⟩) n cap)) X L R M T gs N u1 u2 cs sz (.slice (some ⟨g, 0, none⟩) n cap) (st.1, zs) ∧ W2.cell? ⟨L, 0, none⟩ = some u ∧ W2.frozen? ⟨L, 0, none⟩ = false := by
  have nL : some L ≠ u.ownBlock := fun e => (h.ap L e.symm).1 rfl
  have k0 := (hg.cell_far ⟨L, 0, none⟩ h.lL nL).trans h.box
  have q0 := (hg.frozen_far ⟨L, 0, none⟩ h.lL nL).trans h.fb
  have hgs := grown_setCell W2 L 0 (.slice (some ⟨g, 0, none⟩) n cap)
  have hs := hg.size
  have a1 := (h.am.kept d hg (fun r e => ⟨(World.ownsRow.lt h.own r e).1, (h.ap r e).2⟩)).kept d hgs (fun r e => by
    injection e with e; subst e; exact ⟨d.l, d.lr, d.lm, d.lt⟩)
  have lM : M < W.heap.size := World.block_lt_of_cell? _ _ h.am.m
  have lT : T < W.heap.size := World.block_lt_of_cell? _ _ h.am.t0
  have lR : R < W.heap.size := (World.ownsRow.lt h.am.row R rfl).2
  have ap : ∀ q, (Value.slice (some ⟨g, 0, none⟩) n cap).ownBlock = some q → q ≠ L ∧ q ≠ R ∧ q ≠ M ∧ q ≠ T := fun q e => by
    have e : g = q := by simpa [Value.ownBlock] using e
    subst e
    rcases hat with a | a
    · exact h.ap g a
    · have := h.lL; omega
  exact ⟨⟨a1, World.cell?_setCell_same' _ _ _ (by rw [k0]; rfl), by rw [World.frozen?_setCell]; exact q0, World.ownsRow.kept ho hgs (ownI_ne ho L (fun e => (ap L e).1 rfl)), ap, Nat.le_trans h.sz (Nat.le_trans hs hgs.size)⟩, k0, q0⟩
end

def AddTEnd (w : World) (X L R M T gs N : Nat) (u1 u2 : Value) (cs : Nat) (sz : List Int) (st : List Bool × List Nat) (e : Ending) (w' : World) : Prop :=
  e = .returned (.tuple #[]) ∧ ∃ u, AS w' X L R M T gs N u1 u2 cs sz u st ∧ Below X w w'

set_option maxHeartbeats 4000000 in
set_option maxRecDepth 100000 in
theorem addT_any (X L R M T gs N : Nat) (u1 u2 : Value) (cs : Nat) (sz : List Int) (d : AD X L R M T gs N sz) (hN : N ≤ 8192) (u : Value) (st : List Bool × List Nat) (a : Option Addr) (c : Nat) (ls : List Nat) (hls : ∀ v ∈ ls, v < N) (w : World) (h : AS w X L R M T gs N u1 u2 cs sz u st) (hz : ∃ w0, Ints w0 a (ni ls) ∧ Below X w0 w ∧ w0.heap.size ≤ X)
    (hll : ls.length ≤ 900000000) (hst : ∀ k ≤ ls.length, ((ls.take k).foldl (addT sz) st).2.length ≤ 900000000) :
    Calls Try.prog 52 #[.slice a ls.length c, .pointer (some ⟨M, 0, none⟩), .pointer (some ⟨T, 0, none⟩), .pointer (some ⟨L, 0, none⟩)] w (AddTEnd w X L R M T gs N u1 u2 cs sz (ls.foldl (addT sz) st)) := by
  obtain ⟨w0, hz, hb0, h0X⟩ := hz
  obtain ⟨n, hn⟩ : ∃ n, ls.length = n := ⟨_, rfl⟩
  have Hz := Lib.hid hz
  have Hb0 := Lib.hid hb0
  have HD := Lib.hid d
  have Hst := Lib.hid hst
  have Hls := Lib.hid hls
  have H : Hid (AS w X L R M T gs N u1 u2 cs sz u ((ls.take 0).foldl (addT sz) st)) := h
  have Hn := Lib.hid hn
  rw [hn] at hll ⊢
  have hB : Hid (Below X w w) := Below.refl _ _
  clear hz hb0 d hst hls h hn
  go_enter Try.func52, Try.ntmps52
  go_wp2
  go_loopw [9] (fun x W => ∃ (k : Nat) (u : Value), x = .int .i64 (k : Int) ∧ k ≤ n ∧ Hid (AS W X L R M T gs N u1 u2 cs sz u ((ls.take k).foldl (addT sz) st)) ∧ Hid (Below X w W)) (fun x _ => n - (intOf x).toNat)
  case atStart => exact ⟨0, u, rfl, Nat.zero_le _, H, hB⟩
  case round =>
    clear H hB
    obtain ⟨k, u, rfl, hk, H, hB⟩ := hrel
    by_cases hlt : k < n
    · have hkl : k < ls.length := by rw [Hn.out]; exact hlt
      obtain ⟨v, hv⟩ : ∃ v, ls.getD k 0 = v := ⟨_, rfl⟩
      have hve : ls[k] = v := by rw [← hv]; simp [List.getD_eq_getElem?_getD, hkl]
      have hvN : v < N := Hls.out v (by rw [← hve]; exact List.getElem_mem _)
      have htk : Hid ((ls.take (k + 1)).foldl (addT sz) st = addT sz ((ls.take k).foldl (addT sz) st) v) := by
        show _ = _; rw [List.take_add_one, List.getElem?_eq_getElem hkl, hve, List.foldl_append]; rfl
      obtain ⟨rb, ro, rfl, hrc⟩ := (Hz.out.below (Hb0.out.trans hB.out) h0X) (by rw [ni_len]; omega)
      have cY := hrc k (by rw [ni_len]; exact hkl)
      rw [show (ni ls).getD k 0 = ((v : Nat) : Int) by rw [← hv]; unfold ni; simp [List.getD_eq_getElem?_getD, hkl]] at cY
      have hsl := Hst.out k (by omega)
      generalize (ls.take k).foldl (addT sz) st = sk at *
      obtain ⟨ins, lst⟩ := sk
      have cM := H.out.am.m
      have cR := H.out.am.row.cell (i := v) (by rw [H.out.am.len]; exact hvN)
      have fR := H.out.am.row.free v
      have cT0 := H.out.am.t0
      have cT1 := H.out.am.t1
      have cT2 := H.out.am.t2
      have hins : ins.length = N := H.out.am.len
      obtain ⟨b, hb⟩ : ∃ b, ins.getD v false = b := ⟨_, rfl⟩
      have hb' : (ins, lst).1.getD v false = b := hb
      rw [hb'] at cR
      obtain ⟨s, hs⟩ : ∃ s, sz.getD v 0 = s := ⟨_, rfl⟩
      have hcall : ∀ n, Calls Try.prog 37 #[.agg #[u1, u2, .slice (some ⟨gs, 0, none⟩) N cs], .int .i64 (v : Int)] (wr.drewN n) fun e w' => e = .returned (.bool (decide (0 < s))) ∧ Hid (Below wr.heap.size wr w') := fun n => by
        refine (reaches_any N v u1 u2 gs cs sz HD.out.ls hvN (wr.drewN n) H.out.am.size).mono ?_
        rintro e w' ⟨rfl, hb⟩
        exact ⟨by rw [hs], (Drawn.below ⟨n, rfl⟩ _).trans hb⟩
      have Hcall := Lib.hid hcall
      clear hrc hve hv hcall hkl
      cases b with
      | true =>
        have hnew : addT sz (ins, lst) v = (ins, lst) := if_neg (by rw [hb]; simp)
        have hnx : Hid (AS wr X L R M T gs N u1 u2 cs sz u ((ls.take (k + 1)).foldl (addT sz) st)) := by show AS _ _ _ _ _ _ _ _ _ _ _ _ _ _; rw [htk.out, hnew]; exact H.out
        clear hb hb' hnew htk H hins hs
        go_wp2
        go_roundw
        case rel => exact ⟨k + 1, u, by go_num, hlt, hnx, hB⟩
        case measure => simp [intOf]; omega
      | false =>
        by_cases h0 : 0 < s
        · have hnew : addT sz (ins, lst) v = (ins.set v true, lst ++ [v]) := if_pos ⟨hb, by rw [hs]; exact h0⟩
          obtain ⟨au, cu, rfl, _⟩ := H.out.own.shape
          rw [ni_len] at H
          obtain ⟨m, hm⟩ : ∃ m, lst.length = m := ⟨_, rfl⟩
          rw [show (ins, lst).2.length = m from hm] at H
          have hsl' : m ≤ 900000000 := by rw [← hm]; exact hsl
          have hc2 := Hcall.out
          rw [decide_eq_true h0] at hc2
          have Hc2 := Lib.hid hc2
          have Hm := Lib.hid hm
          have hfin : ∀ w5, Hid (Below wr.heap.size wr w5) → Hid (AS (w5.setCell ⟨R, v, none⟩ (.bool true)) X L R M T gs N u1 u2 cs sz (.slice au m cu) (ins.set v true, lst)) ∧ Hid (Below X w (w5.setCell ⟨R, v, none⟩ (.bool true))) ∧ w5.cell? ⟨M, 0, none⟩ = some (.slice (some ⟨R, 0, none⟩) N N) ∧ w5.cell? ⟨R, v, none⟩ = some (.bool false) ∧ w5.frozen? ⟨R, v, none⟩ = false ∧ (w5.setCell ⟨R, v, none⟩ (.bool true)).cell? ⟨L, 0, none⟩ = some (.slice au m cu) ∧ X ≤ w5.heap.size := fun w5 hb5 => by
            have H5 := H.out.grow HD.out hb5.out
            have H6 := H5.mark HD.out v
            have c5 := H5.am.row.cell (i := v) (by rw [H5.am.len]; exact hvN)
            rw [hb'] at c5
            exact ⟨H6, (hB.out.trans (hb5.out.mono H.out.sz)).setCell (p := ⟨R, v, none⟩) HD.out.r _, H5.am.m, c5, H5.am.row.free v, H6.box, H5.sz⟩
          have Hfin := Lib.hid hfin
          have hX : Hid (X ≤ wr.heap.size) := H.out.sz
          have hrel : ∀ w6, Hid (AS w6 X L R M T gs N u1 u2 cs sz (.slice au m cu) (ins.set v true, lst)) → Hid (Below X w w6) → ∀ g cap w8, Own w8 X (.slice (some ⟨g, 0, none⟩) (m + 1) cap) (ni lst ++ [(v : Int)]) → (w6.alloc (.cells #[.int .i64 (v : Int)] 3)).grownBy w8 (Value.slice au m cu).ownBlock → ((Value.slice au m cu).ownBlock = some g ∨ (w6.alloc (.cells #[.int .i64 (v : Int)] 3)).heap.size ≤ g) →
              (Hid (AS (w8.setCell ⟨L, 0, none⟩ (.slice (some ⟨g, 0, none⟩) (m + 1) cap)) X L R M T gs N u1 u2 cs sz (.slice (some ⟨g, 0, none⟩) (m + 1) cap) ((ls.take (k + 1)).foldl (addT sz) st)) ∧ Hid (Below X w (w8.setCell ⟨L, 0, none⟩ (.slice (some ⟨g, 0, none⟩) (m + 1) cap)))) ∧ w8.cell? ⟨L, 0, none⟩ = some (.slice au m cu) ∧ w8.frozen? ⟨L, 0, none⟩ = false := fun w6 H6 B6 g cap w8 ho hg hat => by
            have H7 := H6.out.grow HD.out ((Below.refl w6.heap.size w6).alloc (Nat.le_refl _) (.cells #[.int .i64 (v : Int)] 3))
            have hp := AS.push (zs := lst ++ [v]) H7 HD.out hg (by rw [show ni (lst ++ [v]) = ni lst ++ [(v : Int)] by simp [ni]]; exact ho) hat
            refine ⟨⟨?_, ?_⟩, hp.2⟩
            · show AS _ _ _ _ _ _ _ _ _ _ _ _ _ _
              rw [htk.out, hnew]; exact hp.1
            · exact ((B6.out.alloc H6.out.sz _).grown hg H7.sz (fun q hq => (World.ownsRow.lt H7.own q hq).1)).setCell (p := ⟨L, 0, none⟩) HD.out.l _
          have Hrel := Lib.hid hrel
          clear hb hb' hnew htk H hins hs hc2 Hcall hB hsl hm hfin hrel
          go_wp2_with fail
          refine (Hc2.out 0).mono ?_
          rintro e w5 ⟨rfl, hb5⟩
          obtain ⟨H6, B6, m5, r5, f5, l6, x5⟩ := Hfin.out w5 hb5
          clear cM cR fR cT0 cT1 cT2 cY
          go_wp2_with (at_builtin; refine wpList_append_big rfl _ _ rfl X _ (ni lst) m (by rw [ni_len]; exact Hm.out) rfl (H6.out.own.alloc _) w5.heap.size (v : Int) rfl (by simp [go_sem]) (by omega) (by simp; omega) ?_; intro g8 cap8 w8 ho8 hg8 hat8; obtain ⟨⟨H8, B8⟩, l8, f8⟩ := Hrel.out _ H6 B6 g8 cap8 w8 ho8 hg8 hat8; clear ho8 hg8 hat8)
          go_roundw
          case rel => exact ⟨k + 1, _, by go_num, hlt, H8, B8⟩
          case measure => simp [intOf]; omega
        · have hnew : addT sz (ins, lst) v = (ins, lst) := if_neg (by rw [hs]; simp [h0])
          have hnx : ∀ W, Hid (Below wr.heap.size wr W) → Hid (AS W X L R M T gs N u1 u2 cs sz u ((ls.take (k + 1)).foldl (addT sz) st)) ∧ Hid (Below X w W) := fun W hb => ⟨by show AS _ _ _ _ _ _ _ _ _ _ _ _ _ _; rw [htk.out, hnew]; exact H.out.grow HD.out hb.out, hB.out.trans (hb.out.mono H.out.sz)⟩
          have Hnx := Lib.hid hnx
          have hc2 := Hcall.out
          rw [decide_eq_false h0] at hc2
          have Hc2 := Lib.hid hc2
          clear hb hb' hnew htk H hins hs hnx hc2 Hcall hB
          go_wp2_with fail
          refine (Hc2.out 0).mono ?_
          rintro e w5 ⟨rfl, hb5⟩
          obtain ⟨H5, B5⟩ := Hnx.out w5 hb5
          go_wp2
          go_roundw
          case rel => exact ⟨k + 1, u, by go_num, hlt, H5, B5⟩
          case measure => simp [intOf]; omega
    · obtain rfl : k = n := by omega
      have hfin : Hid (AddTEnd w X L R M T gs N u1 u2 cs sz (ls.foldl (addT sz) st) (.returned (.tuple #[])) wr) := ⟨rfl, u, by have := H.out; rwa [List.take_of_length_le (by rw [Hn.out]; exact Nat.le_refl _)] at this, hB.out⟩
      clear H hB
      go_wp2
      go_end0
      exact hfin.out
end Go.Proofs.Ytcmliokkamgcdaa
