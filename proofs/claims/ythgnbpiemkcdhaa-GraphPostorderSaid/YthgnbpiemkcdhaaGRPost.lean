/-
  The definition's Postorder, with a stack of its own.
-/
import Derived.Test.YthgnbpiemkcdhaaGRPostW
import Derived.Deep.LoopGhost
namespace Go.Proofs.Ythgnbpiemkcdhaa
open Go.RowKit Go.Shelf
set_option linter.unusedVariables false

theorem own_free {w : World} {base n g c : Nat} {zs : List Int} (h : Own w base (.slice (some ⟨g, 0, none⟩) n c) zs) (hn : zs.length = n) (i : Nat) : w.frozen? ⟨g, i, none⟩ = false := by
  subst hn; exact World.ownsRow.frozenAt h i

set_option maxHeartbeats 8000000 in
set_option maxRecDepth 100000 in
theorem rpost_good (N : Nat) (a : Option Addr) (n c : Nat) (ps : List (Int × Int)) (hl : ps.length = n) (root : Nat) (w : World) (hE : Edg w a c ps) (hok : gchk (N : Int) ps = 0) (hr : root < N) :
    Calls Try.prog 29 #[.agg #[.int .i64 (N : Int), .slice a n c], .int .i64 (root : Int)] w fun e w' => ∃ r, e = .returned r ∧ Own w' w.heap.size r (postL N ps (root : Int)) ∧ Below w.heap.size w w' := by
  obtain ⟨i0, hi, hz0, hz1, hz2⟩ := info_parts (show (Try.prog.info? 4).map (fun i => (i.zero, i.size, i.bytes)) = some (some (.bool false), 1, 1) from by kernel_rfl)
  have hg := gchk_ok hok
  have hlen := hg.len
  have hN := hg.hi
  have hnd : nodeB (N : Int) ps (root : Int) = true := by unfold nodeB; rw [hok, isNd_iff.2 ⟨by omega, by omega⟩]; rfl
  obtain ⟨w0, hw0⟩ : ∃ w0, w.alloc (Obj.cells #[Value.int .i64 (N : Int), Value.slice a n c] 24) = w0 := ⟨_, rfl⟩
  have hz0' : w.heap.size < w0.heap.size := by rw [← hw0]; simp
  have q0 : w0.cell? ⟨w.heap.size, 0, none⟩ = some (.int .i64 (N : Int)) := by rw [← hw0]; simp [go_sem]
  have q1 : w0.cell? ⟨w.heap.size, 1, none⟩ = some (.slice a n c) := by rw [← hw0]; simp [go_sem]
  have HB0 : Hid (Below w.heap.size w w0) := by show Below _ _ _; rw [← hw0]; exact (Below.refl w.heap.size w).alloc (Nat.le_refl _) _
  have HE := Lib.hid hE
  have Hl := Lib.hid hl
  have Hg := Lib.hid hg
  have Hw0 := Lib.hid hw0
  have Hnd := Lib.hid hnd
  rw [hl] at hlen
  clear hE hl hg hw0 hnd hok
  go_enter Try.func29, Try.ntmps29
  go_wp2_with fail
  rw [Hw0.out]
  refine (rnode_at (N : Int) a n c ps (root : Int) true Hnd.out w0 Hl.out (by unfold maxLen; omega) (HE.out.below HB0.out (Nat.le_refl _)).pairs).mono ?_
  rintro e w1 ⟨rfl, hb1⟩
  have hs1 : w.heap.size < w1.heap.size := by have := hb1.size; omega
  have c0 := (hb1.cell (p := ⟨w.heap.size, 0, none⟩) hz0').trans q0
  have c1 := (hb1.cell (p := ⟨w.heap.size, 1, none⟩) hz0').trans q1
  have HB1 := Lib.hid (HB0.out.trans (hb1.mono (Nat.le_of_lt hz0')))
  clear hb1 q0 q1
  go_wp2_with fail
  refine (rlists_good N a n c ps Hl.out w1 (HE.out.below HB1.out (Nat.le_refl _)) Hg.out).mono ?_
  rintro e w2 ⟨G, vs0, rfl, hvs, hrw, hb2⟩
  have hs2 : w.heap.size < w2.heap.size := by have := hb2.size; omega
  have d0 := (hb2.cell (p := ⟨w.heap.size, 0, none⟩) hs1).trans c0
  have Hvs := Lib.hid hvs
  have Hrw := Lib.hid hrw
  have HB2 := Lib.hid (HB1.out.trans (hb2.mono (Nat.le_of_lt hs1)))
  clear hb2 c0 c1 hvs hrw
  go_wp2_with (at_make; refine wpList_make_full _ rfl _ _ 56 rfl w2.heap.size 4 i0 (.bool false) 1 Try.underlying56 hi hz0 hz1 _ _ _ _ N rfl rfl rfl rfl ?_ ?_ ?_ ?_)
  · rw [hz2]; omega
  · unfold maxLen; omega
  · exact Nat.le_refl _
  intro w3 hown hg3
  have hrow : RowB w3 w2.heap.size w2.heap.size (List.replicate N false) := by
    unfold RowB
    rw [List.length_replicate, show (List.replicate N false).map Value.bool = (madeCells #[Value.bool false] N).toList by rw [toList_madeCells_one]; simp]
    exact hown
  have hb3 : Below w2.heap.size w2 w3 := (Below.refl _ _).grown hg3 (Nat.le_refl _) (fun k hk => by cases hk)
  have r0 := hrow.cell (i := root) (by simpa using hr)
  rw [show (List.replicate N false).getD root false = false by simp [List.getD_eq_getElem?_getD, hr]] at r0
  have r1 := hrow.free root
  have hM0 : PMem w3 w2.heap.size w2.heap.size (List.replicate N false) (.slice none 0 0) (.slice none 0 0) (.slice none 0 0) [] [] [] := ⟨hrow, Own.nil _ _, Own.nil _ _, Own.nil _ _, (fun g h => by cases h), (fun g h => by cases h), (fun g h => by cases h)⟩
  have hM1 := hM0.mark root
  have hs3 : w2.heap.size ≤ w3.heap.size := hb3.size
  have hb4 : Below w2.heap.size w2 (((w3.setCell ⟨w2.heap.size, root, none⟩ (.bool true)).alloc (.cells #[.int .i64 (root : Int)] 3)).alloc (.cells #[.int .i64 0] 3)) := ((hb3.setCell (p := ⟨w2.heap.size, root, none⟩) (Nat.le_refl _) _).alloc (by simp; omega) _).alloc (by simp; omega) _
  have hM4 : PMem (((w3.setCell ⟨w2.heap.size, root, none⟩ (.bool true)).alloc (.cells #[.int .i64 (root : Int)] 3)).alloc (.cells #[.int .i64 0] 3)) w2.heap.size w2.heap.size ((List.replicate N false).set root true) (.slice none 0 0) (.slice (some ⟨w3.heap.size, 0, none⟩) 1 1) (.slice (some ⟨w3.heap.size + 1, 0, none⟩) 1 1) [] (SS [((root : Int), 0)]) (SD [((root : Int), 0)]) := by
    refine ⟨((hM1.alloc _).alloc _).row, Own.nil _ _, ?_, ?_, (fun g h => by cases h), (fun g h => by cases h), fun g h h2 => ?_⟩
    · have := own_new1 (w3.setCell ⟨w2.heap.size, root, none⟩ (.bool true)) w2.heap.size (by simp; omega) (root : Int)
      exact Own.alloc (by simpa [SS] using this) _
    · have := own_new1 ((w3.setCell ⟨w2.heap.size, root, none⟩ (.bool true)).alloc (.cells #[.int .i64 (root : Int)] 3)) w2.heap.size (by simp; omega) 0
      simpa [SD] using this
    · simp only [Value.ownBlock, Option.some.injEq] at h h2
      omega
  obtain ⟨gk0, hPI⟩ := PI.start Hg.out (root := (root : Int)) (by omega) (by omega)
  rw [Int.toNat_natCast] at hPI
  have HM4 := Lib.hid hM4
  have Hb4 := Lib.hid hb4
  have HPI := Lib.hid hPI
  clear hown hg3 hrow hb3 hM0 hM1 hM4 hb4 hPI
  go_wp2
  go_loopg [5, 8, 9] gk0 (fun gk vo vs vd W => ∃ fr st, PI N ps (dfsV ps N (root : Int) (List.replicate N false, [])) fr st gk ∧ PMem W w2.heap.size w2.heap.size st.1 vo vs vd st.2 (SS fr) (SD fr) ∧ Below w2.heap.size w2 W)
  case atStart => exact ⟨_, _, HPI.out, HM4.out, Hb4.out⟩
  case round =>
    obtain ⟨fr, st, hP, hM, hb⟩ := hrel
    have hsz := hb.size
    have HP := Lib.hid hP
    have HM := Lib.hid hM
    have Hb := Lib.hid hb
    rcases List.eq_nil_or_concat fr with rfl | ⟨fr0, ⟨v, k⟩, hfr⟩
    · obtain ⟨sa, sc, hsv, _⟩ := hM.s.shape
      have hsv2 : _ = Value.slice sa 0 sc := hsv
      subst hsv2
      have hfin : st = dfsV ps N (root : Int) (List.replicate N false, []) := hP.run
      have Hfin : Hid (st.2 = postL N ps (root : Int)) := by show _ = _; rw [hfin]; rfl
      clear hP hM hb hfin
      go_wp2
      go_ret
      exact ⟨_, rfl, by rw [← Hfin.out]; exact HM.out.o.mono (Nat.le_of_lt hs2), HB2.out.trans (Hb.out.mono (Nat.le_of_lt hs2))⟩
    · rw [List.concat_eq_append] at hfr
      subst hfr
      obtain ⟨m, hm⟩ : ∃ m, fr0.length = m := ⟨_, rfl⟩
      have hls : (SS (fr0 ++ [(v, k)])).length = m + 1 := by rw [length_SS]; simp [hm]
      have hld : (SD (fr0 ++ [(v, k)])).length = m + 1 := by rw [length_SD]; simp [hm]
      obtain ⟨gs, cs, rfl, hcs, hcs2, hBs, _⟩ := own_shape hM.s hls (by omega)
      obtain ⟨gd, cd, rfl, hcd, hcd2, hBd, _⟩ := own_shape hM.d hld (by omega)
      have hvn := hP.node (v, k) (by simp)
      have hke := hP.edge (v, k) (by simp)
      have hcnt := hP.cnt
      rw [List.length_append, List.length_singleton, hm] at hcnt
      obtain ⟨v, rfl⟩ : ∃ x : Nat, v = (x : Int) := ⟨v.toNat, by have := hvn.1; simp only at this; omega⟩
      have hvN : v < N := by have := hvn.2; simp only at this; omega
      have cS : wr.cell? ⟨gs, m, none⟩ = some (.int .i64 (v : Int)) := by
        have := own_cell hM.s hls (i := m) (by omega)
        rwa [show (SS (fr0 ++ [((v : Int), k)])).getD m 0 = (v : Int) by rw [← hm]; exact SS_last _ _] at this
      have cD : wr.cell? ⟨gd, m, none⟩ = some (.int .i64 (k : Int)) := by
        have := own_cell hM.d hld (i := m) (by omega)
        rwa [show (SD (fr0 ++ [((v : Int), k)])).getD m 0 = (k : Int) by rw [← hm]; exact SD_last _ _] at this
      have hRw := Hrw.out.below Hb.out (Nat.le_refl _)
      have hvl : v < (listsL N ps).length := by rw [length_listsL]; exact hvN
      obtain ⟨au, cu, cG, hvv, hzr, _⟩ := hRw.at_ hvl
      have hrlt := fun r h => (World.ownsRow.lt (Hrw.out.row v hvl) r h).2
      rw [hvv] at hrlt
      rw [getD_listsL hvN] at cG hzr hrlt
      have hGlt : G < w2.heap.size := (World.ownsRow.lt Hrw.out.own G rfl).2
      have hll := succL_take_len ps ps.length (v : Int)
      rw [List.take_length, Hl.out] at hll
      have hnode := fun x hx => succL_node Hg.out x (v := (v : Int)) hx
      simp only at hke
      obtain ⟨L, hL⟩ : ∃ L, succL ps (v : Int) = L := ⟨_, rfl⟩
      obtain ⟨l, hlL⟩ : ∃ l, L.length = l := ⟨_, rfl⟩
      rw [hL, hlL] at cG hrlt hll hke
      rw [hL] at hzr hnode
      have Hls := Lib.hid hls
      have Hld := Lib.hid hld
      have HL := Lib.hid hL
      have Hm := Lib.hid hm
      have HlL := Lib.hid hlL
      have hm2 : (0 : Int) ≤ (m : Int) := by omega
      have hm3 : (m : Int) ≤ (cs : Int) := by omega
      have hm4 : (m : Int) ≤ (cd : Int) := by omega
      have hmN : m ≤ 8192 := by omega
      have hoN : st.2.length ≤ 100000 := by omega
      have hm5 : (m : Int) < (m : Int) + 1 := by omega
      have hkl32 : k ≤ 32768 := by omega
      by_cases hkl : k = l
      · subst hkl
        obtain ⟨g, hgk, hPn⟩ := hP.pop (by rw [hL]; exact hlL.symm)
        have HPn := Lib.hid hPn
        clear hP hM hb hls hld hL hm hlL hzr hrlt hnode hPn hRw hvv hvn hcnt
        go_wp2
        go_quiet (fail)
        go_wp2_with (at_builtin; refine wpList_append_lie rfl _ _ rfl w2.heap.size _ st.2 _ rfl rfl ((HM.out.drewN _).alloc _).o wr.heap.size (v : Int) rfl (cell_at _ _ _ _ (by simp)) hoN (by simp; omega) ?_)
        intro g5 cap5 w5 ho5 hg5 hat5
        have HM5 := Lib.hid ((((HM.out.drewN _).alloc _).putO ho5 hg5 (fun g h => (hat5 g h).imp id (fun e => by simpa using e))).shrink Hls.out Hld.out m (by omega))
        have Hb5 := Lib.hid (((Hb.out.trans (Drawn.below ⟨_, rfl⟩ _)).alloc (by simp; omega) _).grown hg5 (by simp; omega) (fun r hr => (World.ownsRow.lt HM.out.o r hr).1))
        clear ho5 hg5 hat5
        go_wp2
        go_roundg g
        case measure => exact hgk
        case rel =>
          refine ⟨fr0, (st.1, st.2 ++ [(v : Int)]), HPn.out, ?_, Hb5.out⟩
          have := HM5.out
          rw [← Hm.out, SS_take, SD_take] at this
          rw [← Hm.out]
          exact this
      · have hkl2 : k < l := by omega
        obtain ⟨w, hw⟩ : ∃ w, L.getD k 0 = w := ⟨_, rfl⟩
        have hwn := hnode w (by rw [← hw]; exact mem_getD L k (by omega))
        obtain ⟨x, rfl⟩ : ∃ x : Nat, w = (x : Int) := ⟨w.toNat, by omega⟩
        have hxN : x < N := by omega
        obtain ⟨rb, ro, rfl, hrc⟩ := hzr (by omega)
        have cW := hrc k (by omega)
        rw [hw] at cW
        have hrb := hrlt rb rfl
        have hxl : x < st.1.length := by rw [hP.len]; exact hxN
        have cSn := hM.row.cell hxl
        have fSn := hM.row.free x
        have hSd : gd ≠ w2.heap.size := fun e => rowB_ne hM.row hM.d (by rw [e]; rfl)
        have fD := own_free hM.d hld m
        have hX : ∀ D, PMem ((wr.drewN D).setCell ⟨gd, m, none⟩ (.int .i64 ((k : Int) + 1))) w2.heap.size w2.heap.size st.1 u5 (.slice (some ⟨gs, 0, none⟩) (m + 1) cs) (.slice (some ⟨gd, 0, none⟩) (m + 1) cd) st.2 (SS (fr0 ++ [((v : Int), k + 1)])) (SD (fr0 ++ [((v : Int), k + 1)])) := fun D => by
          have := (hM.drewN D).store hld m ((k : Int) + 1)
          rw [show ((k : Int) + 1) = ((k + 1 : Nat) : Int) by omega] at this ⊢
          rw [← hm, SD_set, hm] at this
          rw [show SS (fr0 ++ [((v : Int), k + 1)]) = SS (fr0 ++ [((v : Int), k)]) by rw [SS_snoc, SS_snoc]]
          exact this
        have hgX : ∀ D z, (wr.drewN D).grownBy ((wr.drewN D).setCell ⟨gd, m, none⟩ z) (some gd) := fun D z => grown_setCell _ _ _ _
        have cG1 : ∀ D z, ((wr.drewN D).setCell ⟨gd, m, none⟩ z).cell? ⟨G, v, none⟩ = some (.slice (some ⟨rb, ro, none⟩) l cu) := fun D z => cell_kept' (hgX D z) cG (.inr (by simp; omega))
        have cW1 : ∀ D z, ((wr.drewN D).setCell ⟨gd, m, none⟩ z).cell? ⟨rb, ro + k, none⟩ = some (.int .i64 (x : Int)) := fun D z => cell_kept' (hgX D z) cW (.inr (by simp; omega))
        have cS1 : ∀ D z, ((wr.drewN D).setCell ⟨gd, m, none⟩ z).cell? ⟨w2.heap.size, x, none⟩ = some (.bool (st.1.getD x false)) := fun D z => cell_kept' (hgX D z) cSn (.inr (by simp; omega))
        have fS1 : ∀ D z, ((wr.drewN D).setCell ⟨gd, m, none⟩ z).frozen? ⟨w2.heap.size, x, none⟩ = false := fun D z => (World.frozen?_setCell _ _ _ _).trans fSn
        have hbX : ∀ D z, Below w2.heap.size w2 ((wr.drewN D).setCell ⟨gd, m, none⟩ z) := fun D z => (Hb.out.trans (Drawn.below ⟨D, rfl⟩ _)).setCell (p := ⟨gd, m, none⟩) hBd z
        have hkb : ((k : Int) == (l : Int)) = false := by rw [beq_eq_false_iff_ne]; omega
        have hk1 : (0 : Int) ≤ (k : Int) := by omega
        have hk2 : (k : Int) < (l : Int) := by omega
        have hv1 : (v : Int) < (N : Int) := by omega
        have hx1 : (x : Int) < (N : Int) := by omega
        have HX := Lib.hid hX
        have HbX := Lib.hid hbX
        cases hb2 : st.1.getD x false with
        | true =>
          obtain ⟨g, hgk, hPn⟩ := hP.skip (w := (x : Int)) (by rw [hL]; omega) (by rw [hL]; exact hw) (by rw [Int.toNat_natCast]; exact hb2)
          have HPn := Lib.hid hPn
          rw [hb2] at cS1
          clear hP hM hb hls hld hL hm hlL hzr hrlt hnode hPn hRw hvv hvn hcnt hX hbX hgX hb2 cSn fSn hrc hw cW fS1
          go_wp2
          go_quiet (fail)
          go_wp2
          go_roundg g
          case measure => exact hgk
          case rel => exact ⟨fr0 ++ [((v : Int), k + 1)], st, HPn.out, HX.out _, HbX.out _ _⟩
        | false =>
          obtain ⟨g, hgk, hPn⟩ := hP.push (w := (x : Int)) Hg.out (by rw [hL]; omega) (by rw [hL]; exact hw) (by omega) (by omega) (by rw [Int.toNat_natCast]; exact hb2)
          rw [Int.toNat_natCast] at hPn
          have HPn := Lib.hid hPn
          rw [hb2] at cS1
          have hls2 : (SS (fr0 ++ [((v : Int), k + 1)])).length = m + 1 := by rw [length_SS]; simp [hm]
          have hld2 : (SD (fr0 ++ [((v : Int), k + 1)])).length = m + 1 := by rw [length_SD]; simp [hm]
          have Hls2 := Lib.hid hls2
          have Hld2 := Lib.hid hld2
          have HX2 : Hid (∀ D, PMem (((wr.drewN D).setCell ⟨gd, m, none⟩ (.int .i64 ((k : Int) + 1))).setCell ⟨w2.heap.size, x, none⟩ (.bool true)) w2.heap.size w2.heap.size (st.1.set x true) u5 (.slice (some ⟨gs, 0, none⟩) (m + 1) cs) (.slice (some ⟨gd, 0, none⟩) (m + 1) cd) st.2 (SS (fr0 ++ [((v : Int), k + 1)])) (SD (fr0 ++ [((v : Int), k + 1)]))) := fun D => (hX D).mark x
          have HbX2 : Hid (∀ D, Below w2.heap.size w2 (((wr.drewN D).setCell ⟨gd, m, none⟩ (.int .i64 ((k : Int) + 1))).setCell ⟨w2.heap.size, x, none⟩ (.bool true))) := fun D => (hbX D _).setCell (p := ⟨w2.heap.size, x, none⟩) (Nat.le_refl _) _
          clear hP hM hb hls hld hL hm hlL hzr hrlt hnode hPn hRw hvv hvn hcnt hX hbX hgX hb2 cSn fSn hrc hw cW hls2 hld2
          go_wp2
          go_quiet (fail)
          go_wp2_with (at_builtin; refine wpList_append_lie rfl _ _ rfl w2.heap.size _ (SS (fr0 ++ [((v : Int), k + 1)])) (m + 1) Hls2.out rfl ((HX2.out _).alloc _).s wr.heap.size (x : Int) rfl (cell_at _ _ _ _ (by simp)) (by omega) (by simp; omega) ?_)
          intro g5 cap5 w5 ho5 hg5 hat5
          have HM5 := Lib.hid (((HX2.out _).alloc _).putS ho5 hg5 (fun g h => (hat5 g h).imp id (fun e => by simpa using e)))
          have Hb5 := Lib.hid (((HbX2.out _).alloc (by simp; omega) _).grown hg5 (by simp; omega) (fun r hr => by cases hr; exact hBs))
          have hs5 : w2.heap.size ≤ w5.heap.size := Hb5.out.size
          clear ho5 hg5 hat5 cG1 cW1 cS1 fS1
          go_wp2_with (at_builtin; refine wpList_append_lie rfl _ _ rfl w2.heap.size _ (SD (fr0 ++ [((v : Int), k + 1)])) (m + 1) Hld2.out rfl (HM5.out.alloc _).d w5.heap.size 0 rfl (cell_at _ _ _ _ rfl) (by omega) (by simp; omega) ?_)
          intro g6 cap6 w6 ho6 hg6 hat6
          have HM6 := Lib.hid ((HM5.out.alloc _).putD ho6 hg6 (fun g h => (hat6 g h).imp id (fun e => by simpa using e)))
          have Hb6 := Lib.hid ((Hb5.out.alloc hs5 _).grown hg6 (by simp; omega) (fun r hr => by cases hr; exact hBd))
          clear ho6 hg6 hat6
          go_wp2
          go_roundg g
          case measure => exact hgk
          case rel =>
            refine ⟨fr0 ++ [((v : Int), k + 1)] ++ [((x : Int), 0)], (st.1.set x true, st.2), HPn.out, ?_, Hb6.out⟩
            rw [SS_snoc (fr0 ++ [((v : Int), k + 1)]), SD_snoc (fr0 ++ [((v : Int), k + 1)])]
            exact HM6.out
end Go.Proofs.Ythgnbpiemkcdhaa
