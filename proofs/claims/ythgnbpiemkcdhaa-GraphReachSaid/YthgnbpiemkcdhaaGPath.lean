/-
  Path: a shortest path, and whether there is one.
-/
import Derived.Test.YthgnbpiemkcdhaaGPathW
import Derived.BigRegionIn
namespace Go.Proofs.Ythgnbpiemkcdhaa
open Go.RowKit Go.Shelf
set_option linter.unusedVariables false
attribute [local go_sem] Oper.semAt_some run_store_func

set_option maxHeartbeats 4000000 in
set_option maxRecDepth 100000 in
theorem path_good (N : Nat) (a : Option Addr) (c : Nat) (ps : List (Int × Int)) (fr t : Nat) (w : World) (hE : Edg w a c ps) (hok : gchk (N : Int) ps = 0) (hf : fr < N) (ht : t < N) :
    Calls Try.prog 26 #[.agg #[.int .i64 N, .slice a ps.length c], .int .i64 fr, .int .i64 t] w (PathEnd w N ps fr t) := by
  obtain ⟨i0, hi, hz0, hz1, hz2⟩ := info_parts int_info
  have hnf : isNd (N : Int) (fr : Int) = true := isNd_iff.2 ⟨by omega, by omega⟩
  have hnt : isNd (N : Int) (t : Int) = true := isNd_iff.2 ⟨by omega, by omega⟩
  have hg := gchk_ok hok
  have hm := hg.mono
  have hlen := hg.len
  have hN := hg.hi
  obtain ⟨n, hl⟩ : ∃ n, ps.length = n := ⟨_, rfl⟩
  have hck : ∀ X, Below w.heap.size w X → Calls Try.prog 11 #[.agg #[.int .i64 N, .slice a n c]] X fun e w' => e = .returned (.int .i64 0) ∧ Below X.heap.size X w' := fun X hX => by
    have := check_any N a c ps X (by unfold maxLen; omega) (hE.below hX (Nat.le_refl _)).pairs
    rw [hok, hl] at this
    exact this
  have Hl := Lib.hid hl
  rw [hl]
  refine (callsIn_wide (n := 6)).1 ?_
  refine callsIn_of_wp_marks Try.func26 rfl trivial ?_ rfl
  simp only [Try.ntmps26, List.size_toArray, List.length_cons, List.length_nil, Nat.reduceAdd, Nat.reduceSub, Array.replicate_succ, Array.replicate_zero, List.push_toArray, List.append_toArray, List.nil_append, List.cons_append]
  have hb0 := Lib.hid ((Below.refl w.heap.size w).alloc (Nat.le_refl _) (Obj.cells #[Value.int .i64 (N : Int), Value.slice a n c] 24))
  gi_wp2_with fail
  refine ⟨trivial, (callsIn_wide.2 (hck _ hb0.out)).mono ?_⟩
  rintro e w1 ⟨rfl, hb1⟩
  have hs1 : w.heap.size < w1.heap.size := by have := hb1.size; simp at this; omega
  have c0 := (hb1.cell (p := ⟨w.heap.size, 0, none⟩) (by simp)).trans (show _ = some (Value.int .i64 (N : Int)) by simp)
  have c1 := (hb1.cell (p := ⟨w.heap.size, 1, none⟩) (by simp)).trans (show _ = some (Value.slice a n c) by simp)
  have Hb1 := Lib.hid (hb0.out.trans (hb1.mono (by simp)))
  have Hm := Lib.hid hm
  have HE := Lib.hid hE
  have Hg := Lib.hid hg
  clear hb1 hl hm hE hck hg hok
  gi_wp2_with (first
    | (refine ⟨trivial, ?_⟩; gi_at_call 30; refine (callsIn_wide.2 (isNode_at (N : Int) _ _)).mono ?_; rintro e w1 ⟨rfl, rfl⟩)
    | (gi_at_make; refine wpListIn_make_full' _ rfl _ _ 29 rfl 0 3 i0 (.int .i64 0) 1 Try.underlying29 hi hz0 hz1 _ _ _ _ N rfl rfl rfl rfl ?c1 ?c2 ?c3 ?_))
  case c1 => rw [hz2]; omega
  case c2 => unfold maxLen; omega
  case c3 => exact Nat.zero_le _
  intro w2 hown hg2
  have hb2 : Below w1.heap.size w1 w2 := (Below.refl w1.heap.size w1).grown hg2 (Nat.le_refl _) (fun k hk => by cases hk)
  have hR := (World.ownsRow.lt hown w1.heap.size rfl).2
  have hrow : RowI w2 0 w1.heap.size (minusP N 0) := by
    have e : (minusP N 0).map (Value.int .i64) = (madeCells #[Value.int .i64 0] N).toList := by rw [toList_madeCells_one]; simp [minusP]
    unfold RowI
    rw [length_minusP (Nat.zero_le _), e]
    exact hown
  have hrow3 := hrow.alloc (.cells #[.slice (some ⟨w1.heap.size, 0, none⟩) N N] 29)
  have bB := Boxed.new w2 29 (.slice (some ⟨w1.heap.size, 0, none⟩) N N)
  have hb3 := hb2.alloc (Nat.le_of_lt hR) (.cells #[.slice (some ⟨w1.heap.size, 0, none⟩) N N] 29)
  have hz3 : (w2.alloc (.cells #[.slice (some ⟨w1.heap.size, 0, none⟩) N N] 29)).heap.size = w2.heap.size + 1 := by simp
  clear hown hg2 hb2 hrow
  gi_wp2
  gi_loopw [36] (fun i wr => ∃ k : Nat, k ≤ N ∧ i = .int .i64 k ∧ RowI wr 0 w1.heap.size (minusP N k) ∧ Boxed wr w2.heap.size 29 (.slice (some ⟨w1.heap.size, 0, none⟩) N N) ∧ Below w1.heap.size w1 wr ∧ wr.heap.size = w2.heap.size + 1) (fun i _ => N - (intOf i).toNat)
  case atStart => exact ⟨0, Nat.zero_le _, rfl, hrow3, bB, hb3, hz3⟩
  case round =>
    clear hrow3 bB hb3 hz3
    obtain ⟨k, hk, rfl, hrw, hbx, hbl, hsz⟩ := hrel
    have cB := hbx.cell
    by_cases hlt : k < N
    · have cR := hrw.cell (i := k) (by rw [length_minusP hk]; exact hlt)
      have fR := hrw.free k
      have hr2 := hrw.set k (-1)
      rw [minusP_set hlt] at hr2
      have hg3 := grown_setCell wr w1.heap.size k (.int .i64 (-1))
      have Hr2 := Lib.hid hr2
      have Hbx2 := Lib.hid (hbx.kept hg3 (by simp; omega))
      have Hbl2 := Lib.hid (hbl.grown hg3 (by omega) (fun r e => by cases e; exact Nat.le_refl _))
      have hsz2 : (wr.setCell ⟨w1.heap.size, k, none⟩ (.int .i64 (-1))).heap.size = w2.heap.size + 1 := by simp [hsz]
      clear hrw hbx hbl hr2 hg3
      gi_wp2
      go_roundw
      case rel => exact ⟨k + 1, by omega, by go_num, Hr2.out, Hbx2.out, Hbl2.out, hsz2⟩
      case measure => simp [intOf]; omega
    · obtain rfl : k = N := by omega
      have e0 : minusP k k = List.replicate k (-1) := by simp [minusP]
      rw [e0] at hrw
      have cR := hrw.cell (i := fr) (by simpa using hf)
      have fR := hrw.free fr
      have hr2 := hrw.set fr (fr : Int)
      have hg3 := grown_setCell wr w1.heap.size fr (.int .i64 (fr : Int))
      have hbx2 := hbx.kept hg3 (by simp; omega)
      have hbl2 := hbl.grown hg3 (by omega) (fun r e => by cases e; exact Nat.le_refl _)
      have Hr2 := Lib.hid hr2
      have Hbx2 := Lib.hid hbx2
      have Hbl2 := Lib.hid hbl2
      have hst : startP (k : Int) (fr : Int) = ((List.replicate k (-1)).set fr (fr : Int), [(fr : Int)]) := by
        unfold startP
        rw [Int.toNat_natCast, Int.toNat_natCast]
      have hszm : (wr.setCell ⟨w1.heap.size, fr, none⟩ (.int .i64 (fr : Int))).heap.size = w2.heap.size + 1 := by simp [hsz]
      have hPS : PS ((((wr.setCell ⟨w1.heap.size, fr, none⟩ (.int .i64 (fr : Int))).alloc (.cells #[.int .i64 (fr : Int)] 3)).alloc (.cells #[.slice (some ⟨w2.heap.size + 1, 0, none⟩) 1 1] 29)).alloc (.cells #[.int .i64 0] 3)) w1.heap.size w2.heap.size (w2.heap.size + 1 + 1) (w2.heap.size + 1 + 1 + 1) k (w2.heap.size + 1) (.slice (some ⟨w2.heap.size + 1, 0, none⟩) 1 1) 0 (startP (k : Int) (fr : Int)) := by
        rw [hst]
        generalize (wr.setCell ⟨w1.heap.size, fr, none⟩ (.int .i64 (fr : Int))) = wm at hr2 hbx2 hbl2 hszm ⊢
        have hq : (wm.alloc (.cells #[.int .i64 (fr : Int)] 3)).ownsRow (w2.heap.size + 1) 3 1 (.slice (some ⟨w2.heap.size + 1, 0, none⟩) 1 1) 1 [.int .i64 (fr : Int)] := by
          have hn := World.alloc_heap_new wm (.cells #[.int .i64 (fr : Int)] 3)
          rw [hszm] at hn
          exact ⟨rfl, .inr ⟨_, 1, _, rfl, Nat.le_refl _, hn, Nat.le_refl _, by unfold maxLen; omega, rfl, rfl⟩⟩
        have hQ := Boxed.new (wm.alloc (.cells #[.int .i64 (fr : Int)] 3)) 29 (.slice (some ⟨w2.heap.size + 1, 0, none⟩) 1 1)
        rw [World.size_alloc, hszm] at hQ
        have hI := Boxed.new ((wm.alloc (.cells #[.int .i64 (fr : Int)] 3)).alloc (.cells #[.slice (some ⟨w2.heap.size + 1, 0, none⟩) 1 1] 29)) 3 (.int .i64 0)
        rw [World.size_alloc, World.size_alloc, hszm] at hI
        exact ⟨((hr2.alloc _).alloc _).alloc _, by simp, ((hbx2.alloc _).alloc _).alloc _, hQ.alloc _, (World.ownsRow.alloc (World.ownsRow.alloc hq _) _), hI, by simp [Value.ownBlock]⟩
      have hbl3 := ((hbl2.alloc (by rw [hszm]; omega) (.cells #[.int .i64 (fr : Int)] 3)).alloc (by rw [World.size_alloc, hszm]; omega) (.cells #[.slice (some ⟨w2.heap.size + 1, 0, none⟩) 1 1] 29)).alloc (by rw [World.size_alloc, World.size_alloc, hszm]; omega) (.cells #[.int .i64 0] 3)
      have HPS := Lib.hid hPS
      have Hbl3 := Lib.hid hbl3
      have hinv0 : PInv k (fr : Int) (startP (k : Int) (fr : Int)) := PInv.start (by omega) (by omega)
      have Hinv0 := Lib.hid hinv0
      have hfin0 : Hid (foundP (k : Int) ps (fr : Int) (t : Int) = bfsP ps (t : Int) (k + 1 - 0) 0 (startP (k : Int) (fr : Int))) := by
        show _ = _
        unfold foundP
        rw [Int.toNat_natCast]; rfl
      clear hrw hbx hbl hr2 hg3 hbx2 hbl2 e0 hPS hbl3 hst hinv0
      gi_wp2
      refine wpIn_loop (fun a' W => ∃ (q Iq : Nat) (v : Value) (st : List Int × List Int) (Ds : List Nat) (u49 u50 u51 u52 u53 u54 u55 u56 u57 u58 u59 u60 u61 u62 u63 u64 u65 u66 u67 u85 : Value), (q ≤ k ∧ PS W w1.heap.size w2.heap.size (w2.heap.size + 1 + 1) Iq k (w2.heap.size + 1) v q st ∧ PO w1.heap.size w2.heap.size (w2.heap.size + 1 + 1) Iq (w2.heap.size + 1) ∧ PInv k (fr : Int) st ∧ Below w1.heap.size w1 W ∧ foundP (k : Int) ps (fr : Int) (t : Int) = bfsP ps (t : Int) (k + 1 - q) q st ∧ Marks W Ds ∧ ∀ D ∈ Ds, w2.heap.size + 1 ≤ D) ∧ a' = { tmps := #[.agg #[.int .i64 (k : Int), .slice a n c], .int .i64 (fr : Int), .int .i64 (t : Int), .pointer (some ⟨w.heap.size, 0, none⟩), undef, undef, .slice none 0 0, .bool false, .pointer (some ⟨w2.heap.size, 0, none⟩), u9, .pointer (some ⟨w2.heap.size + 1 + 1, 0, none⟩), .pointer (some ⟨Iq, 0, none⟩), undef, undef, .agg #[.int .i64 (k : Int), .slice a n c], .int .i64 0, .bool false, .bool false, .pointer (some ⟨w.heap.size, 0, none⟩), .int .i64 (k : Int), .int .i64 (fr : Int), .bool true, .bool false, .bool false, .bool false, .pointer (some ⟨w.heap.size, 0, none⟩), .int .i64 (k : Int), .int .i64 (t : Int), .bool true, .bool false, .bool false, .pointer (some ⟨w.heap.size, 0, none⟩), .int .i64 (k : Int), .slice (some ⟨w1.heap.size, 0, none⟩) k k, .slice (some ⟨w1.heap.size, 0, none⟩) k k, .int .i64 (k : Int), .int .i64 (k : Int), .bool false, u38, u39, u40, u41, u42, .slice (some ⟨w1.heap.size, 0, none⟩) k k, .int .i64 (fr : Int), .int .i64 (fr : Int), .pointer (some ⟨w1.heap.size, fr, none⟩), .int .i64 (fr : Int), .slice (some ⟨w2.heap.size + 1, 0, none⟩) 1 1, u49, u50, u51, u52, u53, u54, u55, u56, u57, u58, u59, u60, u61, u62, u63, u64, u65, u66, u67, undef, undef, undef, undef, undef, undef, undef, undef, undef, undef, undef, undef, undef, undef, undef, undef, undef, u85, undef, undef, undef, undef, undef, undef, undef, undef, undef, undef, undef, undef, undef, undef, undef, undef, undef, undef, undef, undef, undef, undef, undef, undef, undef], defers := Ds.map mark }) (fun a' W => k + 1 - cntP a' W) ?start ?round2
      case start => exact ⟨0, _, _, _, [], _, _, _, _, _, _, _, _, _, _, _, _, _, _, _, _, _, _, _, _, ⟨Nat.zero_le _, HPS.out, ⟨hR, rfl, rfl, Nat.lt_succ_self _⟩, Hinv0.out, Hbl3.out, hfin0.out, Marks.nil _, by simp⟩, rfl⟩
      case round2 =>
        clear HPS Hbl3 Hinv0 hfin0 cR fR cB Hr2 Hbx2 Hbl2 hsz hszm
        rintro _ wr ⟨q, Iq, u, st, Ds, u49, u50, u51, u52, u53, u54, u55, u56, u57, u58, u59, u60, u61, u62, u63, u64, u65, u66, u67, u85, ⟨hq, hP, o, hI, hbl, hfo, hMk, hDs⟩, rfl⟩
        obtain ⟨au, cu, hu⟩ : ∃ au cu, u = .slice au st.2.length cu := by
          rcases hP.own.2 with ⟨rfl, h0⟩ | ⟨g, cap, cur, rfl, _⟩
          · exact ⟨none, 0, by rw [h0]⟩
          · exact ⟨_, _, rfl⟩
        subst hu
        have HP := Lib.hid hP
        have HI := Lib.hid hI
        have Hbl := Lib.hid hbl
        have Hfo := Lib.hid hfo
        have HMk := Lib.hid hMk
        have HDs := Lib.hid hDs
        have Ho := Lib.hid o
        have g0 := (hbl.cell (p := ⟨w.heap.size, 0, none⟩) hs1).trans c0
        have g1 := (hbl.cell (p := ⟨w.heap.size, 1, none⟩) hs1).trans c1
        have gB := hP.bbox.cell
        have gQ := hP.qbox.cell
        have gI := hP.ibox.cell
        have gT := hP.row.cell (i := t) (by rw [hP.len]; exact ht)
        obtain ⟨bt, hbt⟩ : ∃ bt, st.1.getD t 0 = bt := ⟨_, rfl⟩
        rw [hbt] at gT
        have hbt' : st.1.getD (t : Int).toNat 0 = bt := by rw [Int.toNat_natCast]; exact hbt
        have Hbt := Lib.hid hbt'
        have hcnt := hI.cnt
        by_cases hneg : bt < 0
        · by_cases hlt2 : q < st.2.length
          · obtain ⟨ax, hax, hcx⟩ : ∃ g, au = some ⟨g, 0, none⟩ ∧ wr.cell? ⟨g, q, none⟩ = some (.int .i64 (st.2.getD q 0)) := by
              rcases hP.own.2 with ⟨hv, h0⟩ | ⟨g, cap, cur, hv, _⟩
              · omega
              · cases hv
                refine ⟨g, rfl, ?_⟩
                rw [World.ownsRow.cellAt hP.own q (by omega)]
                simp [List.getD_eq_getElem?_getD, hlt2]
            subst hax
            obtain ⟨v, hv⟩ : ∃ v, st.2.getD q 0 = v := ⟨_, rfl⟩
            rw [hv] at hcx
            have Hv := Lib.hid hv
            have hqb : q < k + 1 := by omega
            clear hP hI hbl hfo hMk hDs o hv hbt hbt'
            gi_wp2
            have hmix : Try.prog.follows .mixedOrders = true := by kernel_rfl
            refine wpIn_region_noPanic ?_
            apply later
            · intro key
              gi_region_with_o (refine ⟨trivial, ?_⟩; gi_at_call 33; refine (callsIn_wide.2 (successors_any (k : Int) a n c v _)).mono ?_; rintro e w' ⟨rfl, rfl⟩)
              all_goals exact key.out
            refine NoPanic.normal ?_
            gi_wp2
            have hE0 := HE.out.below (Hb1.out.trans (Hbl.out.mono (Nat.le_of_lt hs1))) (Nat.le_refl _)
            have hal : Below wr.heap.size wr (((wr.alloc (.cells #[.int .i64 (k : Int), .slice a n c] 24)).alloc (.cells #[.int .i64 v] 3)).drew) := (((Below.refl _ wr).alloc (Nat.le_refl _) _).alloc (by simp) _).drew
            have hko : KeepsOthers wr (((wr.alloc (.cells #[.int .i64 (k : Int), .slice a n c] 24)).alloc (.cells #[.int .i64 v] 3)).drew) := ⟨hal.size, fun k o hk _ => (hal.block k (Array.getElem?_eq_some_iff.1 hk).1).trans hk⟩
            have k1 : (((wr.alloc (.cells #[.int .i64 (k : Int), .slice a n c] 24)).alloc (.cells #[.int .i64 v] 3)).drew).cell? ⟨wr.heap.size, 1, none⟩ = some (.slice a n c) := by simp [go_sem]
            have k2 : (((wr.alloc (.cells #[.int .i64 (k : Int), .slice a n c] 24)).alloc (.cells #[.int .i64 v] 3)).drew).cell? ⟨wr.heap.size + 1, 0, none⟩ = some (.int .i64 v) := by simp [go_sem]
            have hsz3 : (((wr.alloc (.cells #[.int .i64 (k : Int), .slice a n c] 24)).alloc (.cells #[.int .i64 v] 3)).drew).heap.size = wr.heap.size + 2 := by simp
            have hIlt := HP.out.ibox.lt
            have hQlt := HP.out.qbox.lt
            have hP3 := HP.out.kept (grown_of_below hal) (fun r e => by cases e)
            have hbl3 : Below w1.heap.size w1 (((wr.alloc (.cells #[.int .i64 (k : Int), .slice a n c] 24)).alloc (.cells #[.int .i64 v] 3)).drew) := Hbl.out.trans (hal.mono (by have := Hbl.out.size; omega))
            generalize hW0 : (((wr.alloc (.cells #[.int .i64 (k : Int), .slice a n c] 24)).alloc (.cells #[.int .i64 v] 3)).drew) = W0 at *
            clear hW0
            have hMk3 := HMk.out.others hko
            have hE3 := hE0.below hal (Nat.le_refl _)
            have hDlt : ∀ D ∈ Ds, D < W0.heap.size := hMk3.lt
            have hn3 := Hbl.out.size
            obtain ⟨be, hbe, hbe1, hbe2, hstops⟩ := succ_stopsP (fun x => 0 ≤ x ∧ x < (k : Int)) 5 (by omega) wr.heap.size (wr.heap.size + 1) a c v ps Hm.out (fun i hi => (Hg.out.node i hi).2) hlen W0 hE3 (by rw [Hl.out]; exact k1) k2
            have hbl : be = wr.heap.size ∨ be < w.heap.size := by
              by_cases h0 : ps = []
              · exact .inl (hbe1 h0)
              · obtain ⟨b, off, rfl, hp⟩ := HE.out.pairs (List.length_pos_iff.2 h0)
                have h1 := World.block_lt_of_cell? _ _ (hp 0 (List.length_pos_iff.2 h0)).1
                have h2 := hbe2 h0
                simp only [blk] at h2 h1
                omega
            have hvn : 0 ≤ v ∧ v < (k : Int) := by rw [← Hv.out]; exact HI.out.node _ (mem_getD _ _ hlt2)
            refine rangeG (P := fun x => 0 ≤ x ∧ x < (k : Int)) 68 12 (by omega) (gf := 46) (lb := #[.pointer (some ⟨wr.heap.size, 0, none⟩), .pointer (some ⟨wr.heap.size + 1, 0, none⟩)]) rfl (enters_of Try.func46 (by kernel_rfl) rfl) hstops KpG.trans (KpG.put (by omega) (by omega) hbe) rfl
              (fun pre W => ∃ u', PS W w1.heap.size w2.heap.size (w2.heap.size + 1 + 1) Iq k (w2.heap.size + 1) u' q ((pre.map Subtype.val).foldl (visP v) st) ∧ Below w1.heap.size w1 W ∧ Marks W Ds ∧ W0.heap.size ≤ W.heap.size ∧ ∀ q, u'.ownBlock = some q → q ≠ wr.heap.size ∧ q ≠ wr.heap.size + 1 ∧ q ≠ be) ?hI ⟨_, hP3, hbl3, hMk3, Nat.le_refl _, fun q e => by have := HP.out.ge q e; omega⟩ ?assign ?body ?done
            case hI =>
              rintro pre A B row ⟨u', h1, h2, h3, h4, h5⟩ hg hr
              exact ⟨u', h1.kept hg (fun r e => (hr r e).2), h2.grown hg (by have := h2.size; omega) (fun r e => by have := (hr r e).1; omega), h3.kept hg (fun D hD e => by have := (hr D e.symm).1; have := hDlt D hD; omega), Nat.le_trans h4 hg.size, h5⟩
            case assign =>
              intro l x W K hK
              gi_wp2
              exact hK
            case body =>
              rintro l pre x hx W ⟨u', hPx, hbx, hMx, hSx, hux⟩ hlt
              obtain ⟨x, rfl⟩ : ∃ y : Nat, x = (y : Int) := ⟨x.toNat, by omega⟩
              have hxk : x < k := by have := hx.2; omega
              obtain ⟨st', hst'⟩ : ∃ st', (pre.map Subtype.val).foldl (visP v) st = st' := ⟨_, rfl⟩
              rw [hst'] at hPx
              have hkp := foldP_keeps v (pre.map Subtype.val) st q hlt2
              rw [hst', Hv.out] at hkp
              obtain ⟨au', cu', hu'⟩ : ∃ au cu, u' = .slice au st'.2.length cu := by
                rcases hPx.own.2 with ⟨rfl, h0⟩ | ⟨g, cap, cur, rfl, _⟩
                · exact ⟨none, 0, by rw [h0]⟩
                · exact ⟨_, _, rfl⟩
              subst hu'
              obtain ⟨ay, hay, hcy⟩ : ∃ g, au' = some ⟨g, 0, none⟩ ∧ W.cell? ⟨g, q, none⟩ = some (.int .i64 v) := by
                rcases hPx.own.2 with ⟨hv, h0⟩ | ⟨g, cap, cur, hv, _⟩
                · omega
                · cases hv
                  refine ⟨g, rfl, ?_⟩
                  rw [World.ownsRow.cellAt hPx.own q (by omega), ← hkp.2]
                  simp [List.getD_eq_getElem?_getD, hkp.1]
              subst hay
              have hlen' : st'.2.length ≤ 100000 := by
                rw [← hst']
                have := (PInv.fold (pre.map Subtype.val) st HI.out hlt2 Hv.out (fun y hy => by obtain ⟨z, _, rfl⟩ := List.mem_map.1 hy; exact z.2)).cnt
                omega
              have hqlt := hkp.1
              have d0 := hPx.bbox.cell
              have d1 := hPx.qbox.cell
              have d2 := hPx.ibox.cell
              have d3 := hPx.row.cell (i := x) (by rw [hPx.len]; exact hxk)
              have d4 := hPx.row.free x
              have hvis : Hid ((((pre ++ [(⟨(x : Int), hx⟩ : { z : Int // 0 ≤ z ∧ z < (k : Int) })]).map Subtype.val).foldl (visP v) st) = visP v st' (x : Int)) := by
                show _ = _
                rw [List.map_append, List.foldl_append, hst']; rfl
              obtain ⟨bx, hbx'⟩ : ∃ bx, st'.1.getD x 0 = bx := ⟨_, rfl⟩
              rw [hbx'] at d3
              have hbxi : st'.1.getD (x : Int).toNat 0 = bx := by rw [Int.toNat_natCast]; exact hbx'
              have Hbxi := Lib.hid hbxi
              have HPx := Lib.hid hPx
              have Hbx := Lib.hid hbx
              clear hPx hbx hkp hbxi hbx'
              by_cases hbn : bx < 0
              · gi_wp2
                refine wpIn_region_noPanic ?_
                apply later
                · intro key
                  gi_region
                  all_goals exact key.out
                refine NoPanic.normal ?_
                have hP1 : PS ((W.setCell ⟨w1.heap.size, x, none⟩ (.int .i64 v)).drew) w1.heap.size w2.heap.size (w2.heap.size + 1 + 1) Iq k (w2.heap.size + 1) (.slice (some ⟨ay, 0, none⟩) st'.2.length cu') q (st'.1.set x v, st'.2) := (HPx.out.mark Ho.out x v).drew
                obtain ⟨W1, hW1⟩ : ∃ W1, (W.setCell ⟨w1.heap.size, x, none⟩ (.int .i64 v)).drew = W1 := ⟨_, rfl⟩
                rw [hW1] at hP1 ⊢
                have HW1 := Lib.hid hW1
                have hown1 : W1.ownsRow (w2.heap.size + 1) 3 1 (.slice (some ⟨ay, 0, none⟩) st'.2.length cu') st'.2.length (st'.2.map (Value.int .i64)) := hP1.own
                have Hown1 := Lib.hid hown1
                have HP1 := Lib.hid hP1
                have e1 := hP1.qbox.cell
                have e2 := hP1.qbox.frozen
                have e3 := hP1.qbox.lt
                clear hW1 hP1 hown1 d0 d1 d2 d3 d4
                gi_wp2_with (gi_at_builtin; (refine wpListIn_append_own_at _ rfl _ _ 29 rfl (w2.heap.size + 1) 3 i0 (.int .i64 0) 1 8 Try.underlying29 hi hz0 hz1 hz2 rfl (by decide) _ _ _ rfl (World.ownsRow.alloc Hown1.out _) ⟨W1.heap.size, 0, none⟩ 1 1 [.int .i64 (x : Int)] rfl rfl (cell_one_new _ _ _) (by simp [Value.oneCell']) (by unfold maxLen; omega) (by omega) (by simp; omega) ?_; intro v' w3 hown3 hg3 _ hat3; obtain ⟨g', cap', rfl⟩ := ownsRow_succ hown3; obtain ⟨hv1, hP2, hF2⟩ := HP1.out.push Ho.out hown3 hg3 hat3; have hc1 := hv1.cell; have hf1 := hv1.frozen; have HP2 := Lib.hid hP2; have HF2 := Lib.hid hF2; clear hP2 hF2 hown3 hg3 hat3 hv1))
                have hF : Fr W _ _ _ _ _ := Fr.mark (x := x) (v := .int .i64 v) (Fr.drawn (by rw [HW1.out]; exact HF2.out))
                have hoR := Ho.out.r
                have hoI := Ho.out.i
                have hwz := Hbx.out.size
                refine ⟨hF.keeps.from _, ⟨⟨hF.block _ (by omega) (by omega) (by omega) (fun e => (hux _ e.symm).1 rfl), hF.block _ (by omega) (by omega) (by omega) (fun e => (hux _ e.symm).2.1 rfl), hF.block _ (by omega) (by omega) (by omega) (fun e => (hux _ e.symm).2.2 rfl)⟩, hF.size⟩, .slice (some ⟨g', 0, none⟩) (st'.2.length + 1) cap', ?_, Hbx.out.trans (hF.below (by omega) (Nat.le_refl _) (fun q e => by have := HPx.out.ge q e; omega) hwz), hMx.others hF.keeps, by have := hF.size; omega, fun q e => ?_⟩
                · change PS _ _ _ _ _ _ _ _ _ ((List.map Subtype.val (pre ++ [(⟨(x : Int), hx⟩ : { z : Int // 0 ≤ z ∧ z < (k : Int) })])).foldl (visP v) st)
                  rw [hvis.out]
                  unfold visP
                  rw [Hbxi.out, if_pos hbn]
                  exact HP2.out
                · rcases hF.lies with h | ⟨y, h, hy⟩
                  · exact hux q (h.symm.trans e)
                  · rw [h] at e; cases e; omega
              · gi_wp2
                refine ⟨KeepsFrom.refl _ _, ⟨⟨rfl, rfl, rfl⟩, Nat.le_refl _⟩, _, ?_, Hbx.out, hMx, by omega, hux⟩
                change PS _ _ _ _ _ _ _ _ _ ((List.map Subtype.val (pre ++ [(⟨(x : Int), hx⟩ : { z : Int // 0 ≤ z ∧ z < (k : Int) })])).foldl (visP v) st)
                rw [hvis.out]
                unfold visP
                rw [Hbxi.out, if_neg (by omega)]
                exact HPx.out
            case done =>
              rintro D ys W hD hys ⟨u', hPx, hbx, hMx, hSx, hux⟩ hK
              have d2 := hPx.ibox.cell
              gi_wp2
              have hDl : D < W.heap.size := (Array.getElem?_eq_some_iff.1 hK).1
              have m1 : (W.alloc (.cells #[.int .i64 ((q : Int) + 1)] 3)).cell? ⟨W.heap.size, 0, none⟩ = some (.int .i64 ((q : Int) + 1)) := by simp [go_sem]
              refine ⟨⟨q + 1, W.heap.size, u', scanP ps st v, D :: Ds, _, _, _, _, _, _, _, _, _, _, _, _, _, _, _, _, _, _, _, _, ⟨by omega, by unfold scanP; rw [← hys]; exact hPx.turn, ⟨hR, rfl, rfl, hPx.qbox.lt⟩, PInv.fold (succL ps v) st HI.out hlt2 Hv.out (succL_node Hg.out), hbx.alloc hbx.size _, ?_, (hMx.cons hK (fun h => by have := hDlt D h; omega)).kept (World.grownBy_alloc W _ none) (fun _ _ e => by cases e), fun E hE => ?_⟩, rfl⟩, ?_⟩
              · rw [Hfo.out, show k + 1 - q = (k + 1 - (q + 1)) + 1 by omega, bfsP_go hlt2 (by rw [Hbt.out]; exact hneg), Hv.out]
              · rcases List.mem_cons.1 hE with rfl | hE
                · have := HP.out.qbox.lt; omega
                · exact HDs.out E hE
              · show k + 1 - (intOf (((W.alloc (.cells #[.int .i64 ((q : Int) + 1)] 3)).cell? ⟨W.heap.size, 0, none⟩).getD undef)).toNat < k + 1 - (intOf ((wr.cell? ⟨Iq, 0, none⟩).getD undef)).toNat
                rw [m1, gI]
                show k + 1 - ((q : Int) + 1).toNat < k + 1 - ((q : Nat) : Int).toNat
                omega
          · have hend : foundP (k : Int) ps (fr : Int) (t : Int) = st := by rw [hfo, bfsP_end (fun h => hlt2 h.1)]
            have Hend := Lib.hid hend
            clear hP hI hbl hfo hMk hDs o hbt hbt' hend
            gi_wp2
            refine leaves_marks Ds _ HMk.out fun W' hs => ?_
            refine ⟨.tuple #[.slice none 0 0, .bool false], (by simp [results, Try.results26, go_sem]), ?_⟩
            unfold PathEnd
            refine ⟨(Hb1.out.trans (Hbl.out.mono (Nat.le_of_lt hs1))).trans (hs.below fun D hD => by have := HDs.out D hD; omega), ?_⟩
            rw [Hend.out, Hbt.out, if_neg (by omega)]
        · have hend : foundP (k : Int) ps (fr : Int) (t : Int) = st := by rw [hfo, bfsP_end (fun h => hneg (by rw [← hbt']; exact h.2))]
          have Hend := Lib.hid hend
          obtain ⟨j0, hj0, hj1⟩ : ∃ j, j < st.2.length ∧ st.2.getD j 0 = (t : Int) := by
            obtain ⟨j, hj, he⟩ := List.getElem_of_mem (hI.all (t : Int) (by omega) (by omega) (by rw [hbt']; omega))
            exact ⟨j, hj, by simp [List.getD_eq_getElem?_getD, hj, he]⟩
          have Hj1 := Lib.hid hj1
          have hwz := hbl.size
          have hQz := hP.qbox.lt
          clear hP hI hbl hfo hMk hDs o hbt hbt' hend hj1
          obtain ⟨wq, hwq⟩ : ∃ wq, wq = wr := ⟨_, rfl⟩
          subst hwq
          by_cases hlt2 : q < st.2.length
          all_goals
            gi_wp2
            gi_loopw [6, 13] (fun p x W => ∃ (f j : Nat) (y : Int) (acc : List Int), x = .int .i64 y ∧ j < st.2.length ∧ st.2.getD j 0 = y ∧ j ≤ f ∧ acc.length + f = k + 1 ∧ 0 < acc.length ∧ upP st.1 (fr : Int) k (t : Int) [(t : Int)] = upP st.1 (fr : Int) f y acc ∧ Own W wq.heap.size p acc ∧ RowI W 0 w1.heap.size st.1 ∧ Boxed W w2.heap.size 29 (.slice (some ⟨w1.heap.size, 0, none⟩) k k) ∧ Below wq.heap.size wq W) (fun p _ _ => k + 1 - slen p)
            case atStart =>
              refine ⟨k, j0, _, [(t : Int)], rfl, hj0, Hj1.out, by omega, by simp; omega, by simp, rfl, ⟨rfl, .inr ⟨_, 1, _, rfl, Nat.le_refl _, World.alloc_heap_new wq _, Nat.le_refl _, by unfold maxLen; omega, rfl, rfl⟩⟩, HP.out.row.alloc _, HP.out.bbox.alloc _, (Below.refl _ wq).alloc (Nat.le_refl _) _⟩
            case round =>
              obtain ⟨f, j, y, acc, rfl, hj, hy, hjf, hacc, hpos, hup, hown, hrw, hbx, hbl⟩ := hrel
              have hyn := HI.out.node _ (mem_getD st.2 j hj)
              rw [hy] at hyn
              obtain ⟨y, rfl⟩ : ∃ m : Nat, y = (m : Int) := ⟨y.toNat, by omega⟩
              have cB := hbx.cell
              have cR := hrw.cell (i := y) (by rw [HP.out.len]; omega)
              obtain ⟨z, hz⟩ : ∃ z, st.1.getD y 0 = z := ⟨_, rfl⟩
              rw [hz] at cR
              have hsl : slen u6 = acc.length := by
                rcases hown.2 with ⟨rfl, h0⟩ | ⟨g, cap, cur, hv, _⟩
                · rw [h0]; rfl
                · rw [hv]; rfl
              have hz' : st.1.getD (y : Int).toNat 0 = z := by rw [Int.toNat_natCast]; exact hz
              have Hz := Lib.hid hz
              have Hrw := Lib.hid hrw
              have Hbx := Lib.hid hbx
              have Hbw := Lib.hid hbl
              have Hown := Lib.hid hown
              have Hup := Lib.hid hup
              have Hy := Lib.hid hy
              by_cases hyf : (y : Int) = (fr : Int)
              · have hres : Hid (acc.reverse = pathL (k : Int) ps (fr : Int) (t : Int)) := by
                  show _ = _
                  unfold pathL
                  rw [Hend.out, Int.toNat_natCast, hup, hyf, upP_end]
                obtain ⟨g, cap, hp⟩ : ∃ g cap, u6 = .slice (some ⟨g, 0, none⟩) acc.length cap := by
                  rcases hown.2 with ⟨_, h0⟩ | ⟨g, cap, cur, hv, _⟩
                  · omega
                  · exact ⟨g, cap, hv⟩
                subst hp
                have hrev := rev_any wq.heap.size g cap acc wr hown (by omega)
                have hgl := (World.ownsRow.lt hown g rfl).1
                clear hrw hbx hbl hown hup hy hz hz' cR cB
                gi_wp2_with (refine ⟨trivial, ?_⟩; gi_at_call 41; refine (callsIn_wide.2 hrev).mono ?_; rintro e w5 ⟨rfl, ho5, hg5⟩)
                have hb5 : Below wq.heap.size wq w5 := Hbw.out.grown hg5 Hbw.out.size (fun r e => by cases e; exact hgl)
                have hM5 : Marks w5 Ds := ⟨fun D hD => (hb5.block D (HMk.out.lt D hD)).trans (HMk.out.at_ D hD), HMk.out.nd⟩
                refine leaves_marks Ds _ hM5 fun W' hs => ?_
                refine ⟨.tuple #[.slice (some ⟨g, 0, none⟩) acc.length cap, .bool true], (by simp [results, Try.results26, go_sem]), ?_⟩
                unfold PathEnd
                refine ⟨((Hb1.out.trans (Hbl.out.mono (Nat.le_of_lt hs1))).trans (hb5.mono (by omega))).trans (hs.below fun D hD => by have := HDs.out D hD; omega), ?_⟩
                rw [Hend.out, Hbt.out, if_pos (by omega)]
                refine ⟨_, rfl, ?_⟩
                rw [← hres.out]
                have ho6 := hs.row hM5 ho5
                unfold Own
                rw [List.length_reverse] at ho6 ⊢
                exact ownsRow_mono ho6 (by omega)
              · have hj0' : 0 < j := by
                  rcases Nat.eq_zero_or_pos j with h | h
                  · exfalso; rw [h, HI.out.first.2] at hy; exact hyf hy.symm
                  · exact h
                obtain ⟨i, hij, hi2⟩ := HI.out.up j hj0' hj
                rw [hy, hz'] at hi2
                have Hi2 := Lib.hid hi2
                obtain ⟨f, rfl⟩ : ∃ f', f = f' + 1 := ⟨f - 1, by omega⟩
                have hstep : Hid (upP st.1 (fr : Int) k (t : Int) [(t : Int)] = upP st.1 (fr : Int) f z (acc ++ [z])) := by
                  show _ = _
                  rw [hup, upP_go hyf, hz']
                clear hrw hbx hbl hown hup hy hz hz' hi2
                have hwz2 := Hbw.out.size
                gi_wp2_with (gi_at_builtin; refine wpListIn_append_own _ rfl _ _ 29 rfl wq.heap.size 3 i0 (.int .i64 0) 1 8 Try.underlying29 hi hz0 hz1 hz2 rfl (by decide) _ _ _ rfl (World.ownsRow.alloc Hown.out _) ⟨wr.heap.size, 0, none⟩ 1 1 [.int .i64 z] rfl rfl (cell_one_new _ _ _) (by simp [Value.oneCell']) (by unfold maxLen; omega) (by omega) (by simp; omega) ?_; intro v' w5 hown5 hg5 _; obtain ⟨g', cap', rfl⟩ := ownsRow_succ hown5; have hge5 := World.ownsRow.lt Hown.out; have hrw5 := (Hrw.out.alloc _).kept hg5 (fun e => by have := (hge5 _ e.symm).1; omega); have hbx5 := (Hbx.out.alloc _).kept hg5 (fun e => by have := (hge5 _ e.symm).1; omega); have hbl5 := (Hbw.out.alloc hwz2 _).grown hg5 (by simp; omega) (fun r e => (hge5 r e).1); have dB := hbx5.cell; have dR := hrw5.cell (i := y) (by rw [HP.out.len]; omega); rw [Hz.out] at dR; have Hrw5 := Lib.hid hrw5; have Hbx5 := Lib.hid hbx5; have Hbl5 := Lib.hid hbl5; have Hown5 := Lib.hid hown5; clear hrw5 hbx5 hbl5 hown5 hg5 hge5)
                go_roundw
                case rel =>
                  refine ⟨f, i, z, acc ++ [z], rfl, by omega, Hi2.out.symm, by omega, by simp; omega, by simp, hstep.out, ?_, Hrw5.out, Hbx5.out, Hbl5.out⟩
                  have := Hown5.out
                  unfold Own
                  rw [List.length_append, List.map_append]
                  exact this
                case measure =>
                  show k + 1 - (acc.length + 1) < k + 1 - slen _
                  rw [hsl]
                  omega
end Go.Proofs.Ythgnbpiemkcdhaa
