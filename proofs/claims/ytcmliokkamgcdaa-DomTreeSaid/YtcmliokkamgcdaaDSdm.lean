/-
  (search).semidominators.
-/
import Derived.Test.YtcmliokkamgcdaaDLst
import Derived.Test.YtcmliokkamgcdaaDExp
namespace Go.Proofs.Ytcmliokkamgcdaa
open Go.RowKit
set_option linter.unusedVariables false

/-- Rows that are only read. -/
def RowsI (w : World) (G N : Nat) (L : Nat → List Nat) : Prop := ∀ v, v < N → ∃ a c, w.cell? ⟨G, v, none⟩ = some (.slice a (L v).length c) ∧ Ints w a (ni (L v))
theorem RowsI.below {w w' : World} {G N B : Nat} {L : Nat → List Nat} (h : RowsI w G N L) (hb : Below B w w') (hB : w.heap.size ≤ B) : RowsI w' G N L := fun v hv => by
  obtain ⟨a, c, h1, h2⟩ := h v hv
  have := World.block_lt_of_cell? _ _ h1
  exact ⟨a, c, (hb.cell (p := ⟨G, v, none⟩) (by show G < B; have : G < w.heap.size := this; omega)).trans h1, h2.below hb hB⟩
/-- A slice that is only read. -/
theorem ints_cell {w : World} {b : Nat} {zs : List Int} (h : Ints w (some ⟨b, 0, none⟩) zs) {i : Nat} (hi : i < zs.length) : w.cell? ⟨b, i, none⟩ = some (.int .i64 (zs.getD i 0)) := by
  obtain ⟨b2, o2, e2, hs2⟩ := h (by omega)
  injection e2 with e2; injection e2 with a b' c
  subst a; subst b'
  have := hs2 i hi
  rwa [Nat.zero_add] at this

theorem d_store_func {P : Program} {w : World} {a : Addr} {m : Mode} (fn : Fn) (x y : Array Value) : (store a (.func fn x y) m).run P w = stored P w a (.func fn x y) m := run_store P w a _ m rfl
attribute [local go_sem] d_store_func

def iotaTo (k i : Nat) : List Int := (List.range i).map (fun (j : Nat) => (j : Int)) ++ List.replicate (k - i) 0
theorem iotaTo_len {k i : Nat} (h : i ≤ k) : (iotaTo k i).length = k := by simp [iotaTo]; omega
theorem iotaTo_zero (k : Nat) : iotaTo k 0 = List.replicate k 0 := by simp [iotaTo]
theorem iotaTo_all {k j : Nat} (h : j < k) : (iotaTo k k).getD j 0 = (j : Int) := by simp [iotaTo, List.getD_eq_getElem?_getD, h]
theorem iotaTo_succ {k i : Nat} (h : i < k) : iotaTo k (i + 1) = (iotaTo k i).set i (i : Int) := by
  apply List.ext_getElem
  · rw [List.length_set, iotaTo_len h, iotaTo_len (Nat.le_of_lt h)]
  · intro q h1 h2
    rw [List.getElem_set]
    simp only [iotaTo, List.getElem_append, List.length_map, List.length_range, List.getElem_map, List.getElem_range, List.getElem_replicate]
    by_cases e : i = q
    · subst e; simp
    · rw [if_neg e]
      by_cases l : q < i
      · rw [dif_pos (by omega), dif_pos l]
      · rw [dif_neg (by omega), dif_neg l]

theorem Row.self {w : World} {base g cap : Nat} {zs : List Int} (h : Row w base g cap zs) : Row w g g cap zs := by
  obtain ⟨h1, h2⟩ := h
  refine ⟨h1, ?_⟩
  rcases h2 with h2 | ⟨g', cap', cur, hv, hb', hr⟩
  · exact .inl h2
  · refine .inr ⟨_, _, _, hv, ?_, hr⟩
    injection hv with hv _ _; injection hv with hv; injection hv with hv _ _; omega
structure MD (X S TB BB V T B : Nat) : Prop where
  d : LD TB BB V T B
  s1 : S ≠ T
  s2 : S ≠ B
  s3 : TB ≠ S
  s4 : BB ≠ S
  s5 : V ≠ S
  lS : X ≤ S
  lT : X ≤ T
  lB : X ≤ B
structure MS (X : Nat) (w1 W : World) (S TB BB V T B k ct cb cs : Nat) (tl bl sl : List Int) : Prop where
  ls : LS W W TB BB V T B k ct cb tl bl
  rs : Row W S S cs sl
  ln : sl.length = k
  bl : Below X w1 W
section
variable {X : Nat} {w1 W W' : World} {S TB BB V T B k ct cb cs : Nat} {tl bl sl tl' bl' : List Int}
theorem LS.now (h : LS w1 W TB BB V T B k ct cb tl bl) : LS W W TB BB V T B k ct cb tl bl := { h with fr := Fr.refl _ _ }
theorem MS.call (h : MS X w1 W S TB BB V T B k ct cb cs tl bl sl) (d : MD X S TB BB V T B) (hX : X ≤ W.heap.size) (l : LS W W' TB BB V T B k ct cb tl' bl') : MS X w1 W' S TB BB V T B k ct cb cs tl' bl' sl :=
  ⟨l.now, l.fr.own h.rs (fun q hq p => by
    have e : S = q := by simpa [Value.ownBlock] using hq
    rcases p with p | p
    · exact d.s1 (e.trans p)
    · exact d.s2 (e.trans p)), h.ln, l.fr.belowOf h.bl (fun q p => by have := d.lT; have := d.lB; rcases p with p | p <;> omega) hX⟩
theorem MS.setS (h : MS X w1 W S TB BB V T B k ct cb cs tl bl sl) (d : MD X S TB BB V T B) (i : Nat) (z : Int) : MS X w1 (W.setCell ⟨S, i, none⟩ (.int .i64 z)) S TB BB V T B k ct cb cs tl bl (sl.set i z) := by
  have o : ∀ q, q ≠ S → (W.setCell ⟨S, i, none⟩ (.int .i64 z)).cell? ⟨q, 0, none⟩ = W.cell? ⟨q, 0, none⟩ := fun q hq => World.cell?_setCell_other _ _ _ _ (by intro e; injection e with e1 e2; exact hq e1.symm)
  have g := grown_setCell W S i (.int .i64 z)
  exact ⟨⟨(o TB d.s3).trans h.ls.kt, (o BB d.s4).trans h.ls.kb, (o V d.s5).trans h.ls.kv, h.ls.rt.kept g (fun e => d.s1 (by injection e with e; exact e.symm)), h.ls.rb.kept g (fun e => d.s2 (by injection e with e; exact e.symm)), h.ls.lt, h.ls.lb, Fr.refl _ _⟩, h.rs.set i z, by rw [List.length_set]; exact h.ln, h.bl.setCell (p := ⟨S, i, none⟩) d.lS _⟩
theorem MS.setB (h : MS X w1 W S TB BB V T B k ct cb cs tl bl sl) (d : MD X S TB BB V T B) (i : Nat) (z : Int) : MS X w1 (W.setCell ⟨B, i, none⟩ (.int .i64 z)) S TB BB V T B k ct cb cs tl (bl.set i z) sl :=
  ⟨(h.ls.setB d.d i z).now, h.rs.kept (grown_setCell W B i _) (fun e => d.s2 (by injection e)), h.ln, h.bl.setCell (p := ⟨B, i, none⟩) d.lB _⟩
theorem MS.drewN (h : MS X w1 W S TB BB V T B k ct cb cs tl bl sl) (n : Nat) : MS X w1 (W.drewN n) S TB BB V T B k ct cb cs tl bl sl := ⟨(h.ls.drewN n).now, h.rs, h.ln, ⟨h.bl.os, h.bl.tape, h.bl.output, h.bl.size, h.bl.block⟩⟩
end
section
variable {k : Nat} {F : Nat → Nat → Prop} {p : Nat → Nat} {tl bl sl : List Int} {i c : Nat} {js : List Nat}
theorem sem_next (t : Tr k F p) (h0 : 0 < i) (hi : i < k) (hF : Found k F p (dn sl) i) (hW : Ways k p (dn sl) i (dn bl) (dn tl)) (nt : NT k tl bl) (hs : ∀ j, j < k → sl.getD j 0 = (dn sl j : Int)) (hid : ∀ j, j ≤ i → sl.getD j 0 = (j : Int)) (ln : sl.length = k) (lb : bl.length = k) (a : Acc p (dn sl) i js c) (m : ∀ j, j ∈ js ↔ F j i) :
    Found k F p (dn (sl.set i (c : Int))) (i - 1) ∧ Ways k p (dn (sl.set i (c : Int))) (i - 1) (dn (bl.set i (c : Int))) (dn tl) ∧ NT k tl (bl.set i (c : Int)) ∧ (∀ j, j < k → (sl.set i (c : Int)).getD j 0 = (dn (sl.set i (c : Int)) j : Int)) ∧ ∀ j, j ≤ i - 1 → (sl.set i (c : Int)).getD j 0 = (j : Int) := by
  obtain ⟨i, rfl⟩ : ∃ x, i = x + 1 := ⟨i - 1, by omega⟩
  rw [Nat.add_sub_cancel]
  have e1 := dn_self (l := sl) (i := i + 1) c (by omega)
  have e2 := dn_self (l := bl) (i := i + 1) c (by omega)
  have ec : ∀ u, i + 1 < u → dn (sl.set (i + 1) (c : Int)) u = dn sl u := fun u hu => dn_set (by omega)
  have a' : Acc p (dn (sl.set (i + 1) (c : Int))) (i + 1) js c := ⟨a.le, a.near, fun j hj u hu lu => by rw [ec u lu]; exact a.far j hj u hu lu, by
    rcases a.is with q | ⟨j, hj, q⟩
    · exact .inl q
    · refine .inr ⟨j, hj, ?_⟩
      rcases q with q | ⟨u, hu, lu, q⟩
      · exact .inl q
      · exact .inr ⟨u, hu, lu, by rw [ec u lu]; exact q⟩⟩
  refine ⟨(hF.congr ec).next t hi a' e1 m, (hW.congr ec).linked t hi (by rw [e1, e2]) (fun j hj => dn_set hj), ⟨fun j hj => ?_, nt.t⟩, fun j hj => ?_, fun j hj => ?_⟩
  · by_cases q : j = i + 1
    · subst q; rw [e2, getD_set_self _ (by omega)]
    · rw [dn_set q, getD_set_far _ q]; exact nt.b j hj
  · by_cases q : j = i + 1
    · subst q; rw [e1, getD_set_self _ (by omega)]
    · rw [dn_set q, getD_set_far _ q]; exact hs j hj
  · rw [getD_set_far _ (by omega)]; exact hid j (by omega)
theorem set_same {l : List Int} {i : Nat} {z : Int} (h : l.getD i 0 = z) (hl : i < l.length) : l.set i z = l := by
  apply List.ext_getElem
  · simp
  · intro q h1 h2
    rw [List.getElem_set]
    split
    · rename_i e; subst e; rw [← h, List.getD_eq_getElem?_getD, List.getElem?_eq_getElem h2]; rfl
    · rfl
/-- The numbers of the predecessors, as far as they have one. -/
structure JS (nd : List Nat) (L js : List Nat) : Prop where
  mem : ∀ j ∈ js, j < nd.length ∧ nd.getD j 0 ∈ L
  all : ∀ y ∈ L, y ∈ nd → ∃ j, j ∈ js ∧ nd.getD j 0 = y
theorem JS.start (nd : List Nat) : JS nd [] [] := ⟨fun _ h => (by cases h), fun _ h => (by cases h)⟩
theorem JS.skip {nd L js : List Nat} {y : Nat} (h : JS nd L js) (n : y ∉ nd) : JS nd (L ++ [y]) js :=
  ⟨fun j hj => ⟨(h.mem j hj).1, List.mem_append.2 (.inl (h.mem j hj).2)⟩, fun x hx hn => by
    rcases List.mem_append.1 hx with q | q
    · exact h.all x q hn
    · have e : x = y := by simpa using q
      exact absurd (e ▸ hn) n⟩
theorem JS.step {nd L js : List Nat} {y j : Nat} (h : JS nd L js) (hj : j < nd.length) (e : nd.getD j 0 = y) : JS nd (L ++ [y]) (js ++ [j]) :=
  ⟨fun x hx => by
    rcases List.mem_append.1 hx with q | q
    · exact ⟨(h.mem x q).1, List.mem_append.2 (.inl (h.mem x q).2)⟩
    · have e' : x = j := by simpa using q
      subst e'; exact ⟨hj, List.mem_append.2 (.inr (by rw [e]; exact List.mem_singleton.2 rfl))⟩, fun x hx hn => by
    rcases List.mem_append.1 hx with q | q
    · obtain ⟨j', a, b⟩ := h.all x q hn
      exact ⟨j', by simp [a], b⟩
    · have e' : x = y := by simpa using q
      exact ⟨j, by simp, by rw [e, e']⟩⟩
theorem JS.iff {N : Nat} {su pr : Nat → List Nat} {nd js : List Nat} {i : Nat} (h : JS nd (pr (nd.getD i 0)) js) (hn : nd.Nodup) (hi : i < nd.length) (hN : ∀ v ∈ nd, v < N) (hpr : ∀ x y, x < N → y < N → (y ∈ pr x ↔ x ∈ su y)) : ∀ j, j ∈ js ↔ FN su nd j i := fun j => by
  have iN := hN _ (at_mem hi)
  constructor
  · intro hj
    obtain ⟨a, b⟩ := h.mem j hj
    exact ⟨a, hi, (hpr _ _ iN (hN _ (at_mem a))).1 b⟩
  · rintro ⟨a, _, b⟩
    obtain ⟨j', hj', e⟩ := h.all _ ((hpr _ _ iN (hN _ (at_mem a))).2 b) (at_mem a)
    have := nd_inj hn (h.mem j' hj').1 a e
    exact this ▸ hj'
end
def SemEnd (w : World) (k : Nat) (F : Nat → Nat → Prop) (p : Nat → Nat) (e : Ending) (w' : World) : Prop :=
  ∃ g cap sl s, e = .returned (.slice (some ⟨g, 0, none⟩) k cap) ∧ Row w' w.heap.size g cap sl ∧ sl.length = k ∧ Semi k F p s ∧ (∀ j, j < k → sl.getD j 0 = (s j : Int)) ∧ Below w.heap.size w w'

set_option maxHeartbeats 8000000 in
set_option maxRecDepth 100000 in
theorem semis_any (N root : Nat) (su pr : Nat → List Nat) (nd par : List Nat) (rest : List (List Nat)) (nm pa : List Int) (bn cn R cR bp cp G cG k : Nat) (w : World) (hE : Ex N root su nd par [] rest) (hnm : NM N nd nm) (hnl : nm.length = N) (hpa : PA par pa) (hk : nd.length = k) (hk2 : k ≤ 8192) (hpl : ∀ v, (pr v).length ≤ 100000)
    (hpr : ∀ x y, x < N → y < N → (y ∈ pr x ↔ x ∈ su y)) (hprN : ∀ x, ∀ y ∈ pr x, y < N) (h1 : Ints w (some ⟨bn, 0, none⟩) (ni nd)) (h2 : Ints w (some ⟨R, 0, none⟩) nm) (h3 : Ints w (some ⟨bp, 0, none⟩) pa) (h4 : RowsI w G N pr) :
    Calls Try.prog 48 #[.agg #[.slice (some ⟨bn, 0, none⟩) k cn, .slice (some ⟨R, 0, none⟩) N cR, .slice (some ⟨bp, 0, none⟩) k cp], .slice (some ⟨G, 0, none⟩) N cG] w (SemEnd w k (FN su nd) (pf par)) := by
  obtain ⟨i0, hi, hz0, hz1, hz2⟩ := info_parts int_info
  have h0k : 0 < k := by rw [← hk]; exact hE.ne
  have hpak : pa.length = k := by rw [hpa.1, hE.lp, hk]
  have T_ := hE.tree
  rw [hk] at T_
  obtain ⟨w1, hw1⟩ : ∃ w1, w.alloc (Obj.cells #[.slice (some ⟨bn, 0, none⟩) k cn, .slice (some ⟨R, 0, none⟩) N cR, .slice (some ⟨bp, 0, none⟩) k cp] 70) = w1 := ⟨_, rfl⟩
  have hz : w1.heap.size = w.heap.size + 1 := by rw [← hw1]; simp
  have hb1 : Below w.heap.size w w1 := by rw [← hw1]; exact (Below.refl w.heap.size w).alloc (Nat.le_refl _) _
  have s0 : w1.cell? ⟨w.heap.size, 0, none⟩ = some (.slice (some ⟨bn, 0, none⟩) k cn) := by rw [← hw1]; simp [go_sem]
  have s1 : w1.cell? ⟨w.heap.size, 1, none⟩ = some (.slice (some ⟨R, 0, none⟩) N cR) := by rw [← hw1]; simp [go_sem]
  have s2 : w1.cell? ⟨w.heap.size, 2, none⟩ = some (.slice (some ⟨bp, 0, none⟩) k cp) := by rw [← hw1]; simp [go_sem]
  have hzz : w.heap.size < w1.heap.size := by omega
  have H1 := Lib.hid (h1.below hb1 (Nat.le_refl _))
  have H2 := Lib.hid (h2.below hb1 (Nat.le_refl _))
  have H3 := Lib.hid (h3.below hb1 (Nat.le_refl _))
  have H4 := Lib.hid (h4.below hb1 (Nat.le_refl _))
  have HB1 := Lib.hid hb1
  have Hw1 := Lib.hid hw1
  have HE := Lib.hid hE
  have HT := Lib.hid T_
  have Hnm := Lib.hid hnm
  have Hnl := Lib.hid hnl
  have Hpa := Lib.hid hpa
  have Hk := Lib.hid hk
  have Hpak := Lib.hid hpak
  have Hpl := Lib.hid hpl
  have Hpr := Lib.hid hpr
  have HprN := Lib.hid hprN
  clear h1 h2 h3 h4 hb1 hw1 hE T_ hnm hnl hpa hk hpak hpl hpr hprN hz
  go_enter Try.func48, Try.ntmps48
  go_wp2_with (at_make; rw [Hw1.out]; refine wpList_make_full _ rfl _ _ 25 rfl w1.heap.size 3 i0 (.int .i64 0) 1 Try.underlying25 hi hz0 hz1 _ _ _ _ k rfl rfl rfl rfl ?c1 ?c2 ?c3 ?_)
  case c1 => rw [hz2]; omega
  case c2 => unfold maxLen; omega
  case c3 => exact Nat.le_refl _
  intro w2 hown hg2
  have hrep : (madeCells #[Value.int .i64 0] k).toList = (iotaTo k 0).map (Value.int .i64) := by rw [toList_madeCells_one]; simp [iotaTo]
  have hR0 : Row w2 w1.heap.size w1.heap.size k (iotaTo k 0) := by
    unfold Row
    rw [← hrep, iotaTo_len (Nat.zero_le _)]
    exact hown
  have hb2 : Below w1.heap.size w1 w2 := (Below.refl _ _).grown hg2 (Nat.le_refl _) (fun k hk => by cases hk)
  have HR := Lib.hid hR0
  have HB2 := Lib.hid hb2
  clear hown hrep hR0 hb2 hg2
  go_wp2
  go_loopw [20] (fun y W => ∃ q : Nat, y = .int .i64 q ∧ q ≤ k ∧ Hid (Row W w1.heap.size w1.heap.size k (iotaTo k q)) ∧ Hid (Below w1.heap.size w1 W)) (fun y _ => k - (intOf y).toNat)
  case atStart => exact ⟨0, rfl, Nat.zero_le _, HR, HB2⟩
  case round =>
    obtain ⟨q, rfl, hq, hrow, hbw⟩ := hrel
    by_cases hlt : q < k
    · have fr := hrow.out.free q
      have hcx := hrow.out.cell (i := q) (by rw [iotaTo_len hq]; exact hlt)
      have hnew := hrow.out.set q (q : Int)
      rw [← iotaTo_succ hlt] at hnew
      have Hnew := Lib.hid hnew
      have hb9 : Hid (Below w1.heap.size w1 (wr.setCell ⟨w1.heap.size, q, none⟩ (.int .i64 (q : Int)))) := hbw.out.setCell (p := ⟨w1.heap.size, q, none⟩) (Nat.le_refl _) _
      obtain ⟨z, hz⟩ : ∃ z, (iotaTo k q).getD q 0 = z := ⟨_, rfl⟩
      rw [hz] at hcx
      clear hnew hz
      go_wp2
      go_roundw
      case rel => exact ⟨q + 1, by go_num, hlt, Hnew, hb9⟩
      case measure => simp [intOf]; omega
    · obtain rfl : k = q := by omega
      have hsz2 := hbw.out.size
      have hSlt := hrow.out.lt.2
      have t2 := (hbw.out.cell (p := ⟨w.heap.size, 2, none⟩) hzz).trans s2
      go_wp2_with fail
      refine (clone_any w1.heap.size k k (iotaTo k k) (iotaTo_len (Nat.le_refl _)) h0k wr (by omega) hrow.out.ints).mono ?_
      rintro e w4 ⟨v4, rfl, ho4, hb4⟩
      obtain ⟨B, cb, rfl, hBk, _, hBg, hBlt⟩ := d_shape ho4 (iotaTo_len (Nat.le_refl _)) h0k
      have hs4 := hb4.size
      have hrB : Row w4 wr.heap.size B cb (iotaTo k k) := by unfold Row; rw [iotaTo_len (Nat.le_refl _)]; unfold Own at ho4; rw [iotaTo_len (Nat.le_refl _)] at ho4; exact ho4
      obtain ⟨w5, hw5⟩ : ∃ w5, w4.alloc (.cells #[.slice (some ⟨B, 0, none⟩) k cb] 25) = w5 := ⟨_, rfl⟩
      have hz5 : w5.heap.size = w4.heap.size + 1 := by rw [← hw5]; simp
      have hb5 : Below w4.heap.size w4 w5 := by rw [← hw5]; exact (Below.refl _ _).alloc (Nat.le_refl _) _
      have kb5 : w5.cell? ⟨w4.heap.size, 0, none⟩ = some (.slice (some ⟨B, 0, none⟩) k cb) := by rw [← hw5]; simp [go_sem]
      have t5 := (hb5.cell (p := ⟨w.heap.size, 2, none⟩) (by show w.heap.size < w4.heap.size; omega)).trans ((hb4.cell (p := ⟨w.heap.size, 2, none⟩) (by show w.heap.size < wr.heap.size; omega)).trans t2)
      rw [← hw5] at t5
      have hbl5 : Below w1.heap.size w1 w5 := (hbw.out.trans (hb4.mono hsz2)).trans (hb5.mono (by omega))
      have Hw5 := Lib.hid hw5
      have HrS := Lib.hid ((hrow.out.below hb4 hSlt).below hb5 (by omega))
      have HrB := Lib.hid (hrB.below hb5 hBlt)
      have Hbl5 := Lib.hid hbl5
      have Hz5 := Lib.hid hz5
      clear ho4 hb4 hrB hb5 hbl5 hw5 t2
      go_wp2_with fail
      rw [Hw5.out]
      refine (clone_any bp k cp pa Hpak.out h0k w5 (by omega) (H3.out.below Hbl5.out (Nat.le_refl _))).mono ?_
      rintro e w6 ⟨v6, rfl, ho6, hb6⟩
      obtain ⟨T, ct, rfl, hTk, _, hTg, hTlt⟩ := d_shape ho6 Hpak.out h0k
      have hs6 := hb6.size
      have hrT : Row w6 w5.heap.size T ct pa := by unfold Row; rw [Hpak.out]; unfold Own at ho6; rw [Hpak.out] at ho6; exact ho6
      have hz5' := Hz5.out
      have HrS6 := Lib.hid (HrS.out.below hb6 (by omega))
      have HrB6 := Lib.hid (HrB.out.below hb6 (by omega))
      have HrT6 := Lib.hid hrT
      have Hbl6 := Lib.hid (Hbl5.out.trans (hb6.mono (by omega)))
      have kb6 := (hb6.cell (p := ⟨w4.heap.size, 0, none⟩) (by show w4.heap.size < w5.heap.size; omega)).trans kb5
      clear ho6 hb6 hrT kb5 t5 HrS HrB Hbl5
      have md : MD w1.heap.size w1.heap.size w6.heap.size w4.heap.size (w6.heap.size + 1) T B := ⟨⟨by omega, by omega, by omega, by omega, by omega, by omega, by omega⟩, by omega, by omega, by omega, by omega, by omega, Nat.le_refl _, by omega, by omega⟩
      obtain ⟨W0, hW0⟩ : ∃ W0, ((w6.alloc (Obj.cells #[Value.slice (some ⟨T, 0, none⟩) k ct] 25)).alloc (Obj.cells #[Value.func (.func 62) #[] #[.pointer (some ⟨w6.heap.size, 0, none⟩), .pointer (some ⟨w4.heap.size, 0, none⟩), .pointer (some ⟨w6.heap.size + 1, 0, none⟩)]] 86)) = W0 := ⟨_, rfl⟩
      have hb0 : Below w6.heap.size w6 W0 := by rw [← hW0]; exact ((Below.refl w6.heap.size w6).alloc (Nat.le_refl _) _).alloc (by simp) _
      have hms : MS w1.heap.size w1 W0 w1.heap.size w6.heap.size w4.heap.size (w6.heap.size + 1) T B k ct cb k pa (iotaTo k k) (iotaTo k k) :=
        ⟨⟨by rw [← hW0]; simp [go_sem], (hb0.cell (p := ⟨w4.heap.size, 0, none⟩) (by show w4.heap.size < w6.heap.size; omega)).trans kb6, by rw [← hW0]; simp [go_sem], (HrT6.out.below hb0 hTlt).self, (HrB6.out.below hb0 (by omega)).self, Hpak.out, iotaTo_len (Nat.le_refl _), Fr.refl _ _⟩, HrS6.out.below hb0 (by omega), iotaTo_len (Nat.le_refl _), Hbl6.out.trans (hb0.mono (by omega))⟩
      have hpj : ∀ j, 0 < j → j < k → pa.getD j 0 = (pf par j : Int) := fun j a b => Hpa.out.2.2 j a (by rw [HE.out.lp, Hk.out]; exact b)
      have hdj : ∀ j, 0 < j → j < k → dn pa j = pf par j := fun j a b => by unfold dn; rw [hpj j a b]; rfl
      have hio : ∀ j, j < k → (iotaTo k k).getD j 0 = (dn (iotaTo k k) j : Int) := fun j a => by unfold dn; rw [iotaTo_all a]; rfl
      have hst : Found k (FN su nd) (pf par) (dn (iotaTo k k)) (k - 1) ∧ Ways k (pf par) (dn (iotaTo k k)) (k - 1) (dn (iotaTo k k)) (dn pa) ∧ NT k pa (iotaTo k k) ∧ (∀ j, j < k → (iotaTo k k).getD j 0 = (dn (iotaTo k k) j : Int)) ∧ ∀ j, j ≤ k - 1 → (iotaTo k k).getD j 0 = (j : Int) :=
        ⟨Found.start _ (by omega), ⟨fun j a b => by omega, fun j a b => by omega, fun j a b => by omega, fun j a b => hdj j a (by omega)⟩, ⟨hio, fun j a b => by rw [hdj j a b]; exact hpj j a b⟩, hio, fun j a => iotaTo_all (by omega)⟩
      have HMS := Lib.hid hms
      have HST := Lib.hid hst
      have HMD := Lib.hid md
      have HW0 := Lib.hid hW0
      clear hms hst hio hdj hpj hb0 hW0 kb6 HrS6 HrB6 HrT6 Hbl6 md
      go_wp2
      rw [HW0.out]
      generalize w6.heap.size = TB at *
      generalize w4.heap.size = BB at *
      go_loopw [10] (fun x W => ∃ (i : Nat) (tl bl sl : List Int), x = .int .i64 (i : Int) ∧ i + 1 ≤ k ∧ Hid (MS w1.heap.size w1 W w1.heap.size TB BB (TB + 1) T B k ct cb k tl bl sl) ∧ Hid (Found k (FN su nd) (pf par) (dn sl) i ∧ Ways k (pf par) (dn sl) i (dn bl) (dn tl) ∧ NT k tl bl ∧ (∀ j, j < k → sl.getD j 0 = (dn sl j : Int)) ∧ ∀ j, j ≤ i → sl.getD j 0 = (j : Int))) (fun x _ => (intOf x).toNat)
      case atStart => exact ⟨k - 1, pa, _, _, by rw [show ((k : Int) - 1) = ((k - 1 : Nat) : Int) by omega], by omega, HMS, HST⟩
      case round =>
        obtain ⟨i, tl, bl, sl, rfl, hik, hms, hst⟩ := hrel
        by_cases h0 : 0 < i
        · obtain ⟨v, hv⟩ : ∃ v, nd.getD i 0 = v := ⟨_, rfl⟩
          have hil : i < nd.length := by rw [Hk.out]; omega
          have hvN : v < N := by rw [← hv]; exact HE.out.node _ (at_mem hil)
          have hsz := hms.out.bl.size
          have q0 := (hms.out.bl.cell (p := ⟨w.heap.size, 0, none⟩) hzz).trans s0
          have qn : wr.cell? ⟨bn, i, none⟩ = some (.int .i64 (v : Int)) := by
            have := ints_cell (H1.out.below hms.out.bl (Nat.le_refl _)) (i := i) (by rw [ni_len]; exact hil)
            rwa [show (ni nd).getD i 0 = ((v : Nat) : Int) by rw [← hv]; unfold ni; simp [List.getD_eq_getElem?_getD, hil]] at this
          obtain ⟨ra, rc, cG1, hzr⟩ := H4.out v hvN
          have cG := (hms.out.bl.cell (p := ⟨G, v, none⟩) (World.block_lt_of_cell? _ _ cG1)).trans cG1
          have hprl := Hpl.out v
          have HprV : Hid (∀ y ∈ pr v, y < N) := HprN.out v
          obtain ⟨m, hm⟩ : ∃ m, (pr v).length = m := ⟨_, rfl⟩
          rw [hm] at cG hprl
          have Hm := Lib.hid hm
          have Hv := Lib.hid hv
          have hzw : Hid (Ints w1 ra (ni (pr v))) := hzr
          have hin : Hid (MS w1.heap.size w1 wr w1.heap.size TB BB (TB + 1) T B k ct cb k tl bl (sl.set i (i : Int))) := by
            show MS _ _ _ _ _ _ _ _ _ _ _ _ _ _ _ _
            rw [set_same (hst.out.2.2.2.2 i (Nat.le_refl _)) (by rw [hms.out.ln]; omega)]; exact hms.out
          have hsln := hms.out.ln
          clear hms hv hm hzr cG1
          go_wp2
          go_loopw [50] (fun x W => ∃ (q : Nat) (tl bl : List Int) (c : Nat) (js : List Nat), x = .int .i64 (q : Int) ∧ q ≤ m ∧ Hid (MS w1.heap.size w1 W w1.heap.size TB BB (TB + 1) T B k ct cb k tl bl (sl.set i (c : Int))) ∧ Hid (Ways k (pf par) (dn sl) i (dn bl) (dn tl) ∧ NT k tl bl ∧ Acc (pf par) (dn sl) i js c ∧ JS nd ((pr v).take q) js)) (fun x _ => m - (intOf x).toNat)
          case atStart => exact ⟨0, tl, bl, i, [], rfl, Nat.zero_le _, hin, ⟨hst.out.2.1, hst.out.2.2.1, Acc.start i, JS.start nd⟩⟩
          case round =>
            clear q0 qn cG hin
            obtain ⟨q, tl2, bl2, c, js, rfl, hqm, hms, hin⟩ := hrel
            have hwz := hms.out.bl.size
            have cS := hms.out.rs.cell (i := i) (by rw [hms.out.ln]; omega)
            rw [getD_set_self _ (by rw [hsln]; omega)] at cS
            have fS := hms.out.rs.free i
            by_cases hq : q < m
            · obtain ⟨y, hy⟩ : ∃ y, (pr v).getD q 0 = y := ⟨_, rfl⟩
              have hyl : q < (pr v).length := by rw [Hm.out]; exact hq
              have hye : (pr v)[q] = y := by rw [← hy]; simp [List.getD_eq_getElem?_getD, hyl]
              have hym : y ∈ pr v := by rw [← hye]; exact List.getElem_mem _
              have hyN := HprV.out y hym
              have htk : (pr v).take (q + 1) = (pr v).take q ++ [y] := by rw [List.take_add_one, List.getElem?_eq_getElem hyl, hye]; rfl
              obtain ⟨rb, ro, rfl, hrc⟩ := (hzw.out.below hms.out.bl (Nat.le_refl _)) (by rw [ni_len]; omega)
              have cY := hrc q (by rw [ni_len]; exact hyl)
              rw [show (ni (pr v)).getD q 0 = ((y : Nat) : Int) by rw [← hy]; unfold ni; simp [List.getD_eq_getElem?_getD, hyl]] at cY
              have s1' := (hms.out.bl.cell (p := ⟨w.heap.size, 1, none⟩) hzz).trans s1
              have cN := ints_cell (H2.out.below hms.out.bl (Nat.le_refl _)) (i := y) (by rw [Hnl.out]; exact hyN)
              have Htk := Lib.hid htk
              clear hrc hye hym htk hy hyl
              by_cases hyn : y ∈ nd
              · obtain ⟨j, hj, hje, hjn⟩ := (Hnm.out.neg hyN).1 hyn
                rw [hjn] at cN
                have hjk : j < k := by rw [← Hk.out]; exact hj
                have hcall := least_any (wr.drewN 1) TB BB (TB + 1) T B k ct cb (FN su nd) (pf par) (dn sl) HMD.out.d HT.out i hk2 (j + 1) j (by omega) hjk tl2 bl2 (wr.drewN 1) (hms.out.drewN 1).ls hin.out.1 hin.out.2.1
                have kV := hms.out.ls.kv
                have Hcall := Lib.hid hcall
                have hjn' : Hid (j < nd.length ∧ nd.getD j 0 = y) := ⟨hj, hje⟩
                clear hcall hjn hj hje
                go_wp2
                refine wp_region_noPanic ?_
                apply dlater (R := fun w z => LR (wr.drewN 1) TB BB (TB + 1) T B k ct cb (pf par) (dn sl) i j tl2 bl2 z w)
                · intro key
                  go_region_with ((go_at_call 62; refine Hcall.out.mono ?_; rintro e w5 ⟨z, rfl, hR⟩; have M5 := (hms.out.drewN 1).call HMD.out (by show w1.heap.size ≤ wr.heap.size; omega) (hR.choose_spec.choose_spec.2.1); have c5 := M5.rs.cell (i := i) (by rw [M5.ln]; omega); rw [getD_set_self _ (by rw [hsln]; omega)] at c5; have f5 := M5.rs.free i; have HR := Lib.hid hR; clear hR M5))
                  all_goals exact key.out w5 z HR.out
                · intro w5 z hR
                  refine NoPanic.normal ?_
                  obtain ⟨tl5, bl5, hLe5, hS5, hW5, hN5, hL5, hK5⟩ := hR
                  have hX : MS w1.heap.size w1 (w5.setCell ⟨w1.heap.size, i, none⟩ (.int .i64 (min (c : Int) (z : Int)))) w1.heap.size TB BB (TB + 1) T B k ct cb k tl5 bl5 (sl.set i ((min c z : Nat) : Int)) := by
                    have := ((hms.out.drewN 1).call HMD.out (by show w1.heap.size ≤ wr.heap.size; omega) hS5).setS HMD.out i ((min c z : Nat) : Int)
                    rw [List.set_set] at this
                    rw [show min (c : Int) (z : Int) = ((min c z : Nat) : Int) by omega]; exact this
                  generalize w5.setCell ⟨w1.heap.size, i, none⟩ (.int .i64 (min (c : Int) (z : Int))) = X at *
                  generalize min (c : Int) (z : Int) = zz at *
                  have HX := Lib.hid hX
                  have hin2 : Hid (Ways k (pf par) (dn sl) i (dn bl5) (dn tl5) ∧ NT k tl5 bl5 ∧ Acc (pf par) (dn sl) i (js ++ [j]) (min c z) ∧ JS nd ((pr v).take (q + 1)) (js ++ [j])) :=
                    ⟨hW5, hN5, hin.out.2.2.1.step HT.out hjk hLe5, by rw [Htk.out]; exact hin.out.2.2.2.step hjn'.out.1 hjn'.out.2⟩
                  clear hX hLe5 hS5 hW5 hN5 hL5 hK5 hms hin Hcall cY cN s1' cS fS kV
                  simp only [Exit.inBlock, Exit.then]
                  go_at_K
                  go_wp2
                  go_roundw
                  case rel => exact ⟨q + 1, tl5, bl5, min c z, _, by go_num, hq, HX, hin2⟩
                  case measure => simp [intOf]; omega
              · have hjn := (Hnm.out.neg hyN).2 hyn
                rw [hjn] at cN
                have hms2 := Lib.hid hms.out
                have hin2 : Hid (Ways k (pf par) (dn sl) i (dn bl2) (dn tl2) ∧ NT k tl2 bl2 ∧ Acc (pf par) (dn sl) i js c ∧ JS nd ((pr v).take (q + 1)) js) := by
                  obtain ⟨a1, a2, a3, a4⟩ := hin.out
                  exact ⟨a1, a2, a3, by rw [Htk.out]; exact a4.skip hyn⟩
                clear hms hin hjn
                go_wp2
                go_roundw
                case rel => exact ⟨q + 1, tl2, bl2, c, js, by go_num, hq, hms2, hin2⟩
                case measure => simp [intOf]; omega
            · obtain rfl : m = q := by omega
              have kB := hms.out.ls.kb
              have cB := hms.out.ls.rb.cell (i := i) (by rw [hms.out.ls.lb]; omega)
              have fB := hms.out.ls.rb.free i
              have htk : (pr v).take m = pr v := List.take_of_length_le (by rw [Hm.out]; exact Nat.le_refl _)
              obtain ⟨a1, a2, a3, a4⟩ := hin.out
              rw [htk, ← Hv.out] at a4
              obtain ⟨b1, b2, b3, b4, b5⟩ := sem_next HT.out h0 (by omega) hst.out.1 a1 a2 hst.out.2.2.2.1 hst.out.2.2.2.2 hsln hms.out.ls.lb a3 (a4.iff HE.out.nodup hil HE.out.node Hpr.out)
              have hms2 := fun n => Lib.hid ((hms.out.setB HMD.out i (c : Int)).drewN n)
              have hin2 := Lib.hid (And.intro b1 (And.intro b2 (And.intro b3 (And.intro b4 b5))))
              clear hms hin a1 a2 a3 a4 b1 b2 b3 b4 b5 htk hst
              go_wp2
              go_region
              go_wp2
              go_roundw
              case rel => exact ⟨i - 1, tl2, bl2.set i (c : Int), sl.set i (c : Int), by rw [show ((i : Int) - 1) = ((i - 1 : Nat) : Int) by omega], by omega, hms2 1, hin2⟩
              case measure => simp [intOf]; omega
        · obtain rfl : i = 0 := by omega
          have hend : Hid (SemEnd w k (FN su nd) (pf par) (.returned (.slice (some ⟨w1.heap.size, 0, none⟩) k k)) wr) :=
            ⟨_, _, sl, dn sl, rfl, hms.out.rs.mono (Nat.le_of_lt hzz), hms.out.ln, hst.out.1.semi HT.out, hst.out.2.2.2.1, HB1.out.trans (hms.out.bl.mono (Nat.le_of_lt hzz))⟩
          clear hms hst
          go_wp2
          go_ret
          exact hend.out
end Go.Proofs.Ytcmliokkamgcdaa
