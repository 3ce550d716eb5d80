/-
  The definition's Distances.
-/
import Derived.Test.YthgnbpiemkcdhaaGDistM
import Derived.Test.YthgnbpiemkcdhaaGRPostW
namespace Go.Proofs.Ythgnbpiemkcdhaa
open Go.RowKit Go.Shelf
set_option linter.unusedVariables false

structure QM (W : World) (S : Nat) (out : List Int) (vn : Value) (now : List Int) : Prop where
  row : RowI W S S out
  own : Own W (S + 1) vn now
section
variable {W W' : World} {S : Nat} {out now : List Int} {vn : Value}
theorem QM.ne (h : QM W S out vn now) : vn.ownBlock ≠ some S := fun e => by have := (World.ownsRow.lt h.own S e).1; omega
theorem QM.lt (h : QM W S out vn now) : S < W.heap.size := (World.ownsRow.lt h.row S rfl).2
theorem QM.below {D : Nat} (h : QM W S out vn now) (hb : Below D W W') (hD : W.heap.size ≤ D) : QM W' S out vn now := ⟨ownsRow_below h.row hb hD, ownsRow_below h.own hb hD⟩
theorem QM.alloc (h : QM W S out vn now) (o : Obj) : QM (W.alloc o) S out vn now := h.below ((Below.refl _ _).alloc (Nat.le_refl _) o) (Nat.le_refl _)
theorem QM.drewN (h : QM W S out vn now) (n : Nat) : QM (W.drewN n) S out vn now := ⟨h.row, h.own⟩
theorem QM.store (h : QM W S out vn now) (x : Nat) (d : Int) : QM (W.setCell ⟨S, x, none⟩ (.int .i64 d)) S (out.set x d) vn now :=
  ⟨h.row.set x d, World.ownsRow.kept h.own (grown_setCell W S x _) (.inr h.ne)⟩
theorem QM.push {v' : Value} {now' : List Int} (h : QM W S out vn now) (ho : Own W' (S + 1) v' now') (hg : W.grownBy W' vn.ownBlock) : QM W' S out v' now' :=
  ⟨h.row.kept hg (fun e => h.ne e.symm), ho⟩
end
/-- .. W2 the world behind Lists, which laid its blocks from L1 on. -/
structure DM (W2 : World) (L1 : Nat) (W : World) (S : Nat) (out : List Int) (vn : Value) (now : List Int) : Prop where
  q : QM W S out vn now
  far : ∀ g, vn.ownBlock = some g → g < L1 ∨ W2.heap.size ≤ g
  mid : ∀ g, L1 ≤ g → g < W2.heap.size → W.heap[g]? = W2.heap[g]?
  sz : W2.heap.size ≤ W.heap.size
  hS : S < L1
section
variable {W2 W W' : World} {L1 S : Nat} {out now : List Int} {vn : Value}
theorem DM.start {W1 : World} (h : QM W1 S out vn now) (hb : Below W1.heap.size W1 W2) : DM W2 W1.heap.size W2 S out vn now :=
  ⟨h.below hb (Nat.le_refl _), fun g hg => .inl (World.ownsRow.lt h.own g hg).2, fun _ _ _ => rfl, Nat.le_refl _, h.lt⟩
theorem DM.alloc (h : DM W2 L1 W S out vn now) (o : Obj) : DM W2 L1 (W.alloc o) S out vn now :=
  ⟨h.q.alloc o, h.far, fun g h1 h2 => (Below.heap_alloc _ _ _ (by have := h.sz; omega)).trans (h.mid g h1 h2), by have := h.sz; simp; omega, h.hS⟩
theorem DM.drewN (h : DM W2 L1 W S out vn now) (n : Nat) : DM W2 L1 (W.drewN n) S out vn now := ⟨h.q.drewN n, h.far, h.mid, h.sz, h.hS⟩
theorem DM.store (h : DM W2 L1 W S out vn now) (x : Nat) (d : Int) : DM W2 L1 (W.setCell ⟨S, x, none⟩ (.int .i64 d)) S (out.set x d) vn now :=
  ⟨h.q.store x d, h.far, fun g h1 h2 => (Below.heap_setCell _ _ _ _ (by have := h.hS; show g ≠ S; omega)).trans (h.mid g h1 h2), by have := h.sz; simpa using this, h.hS⟩
theorem DM.push {v' : Value} {now' : List Int} (h : DM W2 L1 W S out vn now) (ho : Own W' (S + 1) v' now') (hg : W.grownBy W' vn.ownBlock) (hat : ∀ g, v'.ownBlock = some g → vn.ownBlock = some g ∨ W.heap.size ≤ g) : DM W2 L1 W' S out v' now' :=
  ⟨h.q.push ho hg, fun g e => by
      rcases hat g e with h1 | h1
      · exact h.far g h1
      · have := h.sz; exact .inr (by omega),
    fun g h1 h2 => (hg.block g (by have := h.sz; omega) (fun e => by have := h.far g e.symm; omega)).trans (h.mid g h1 h2), Nat.le_trans h.sz hg.size, h.hS⟩
theorem DM.cell (h : DM W2 L1 W S out vn now) {p : Addr} (h1 : L1 ≤ p.block) (h2 : p.block < W2.heap.size) : W.cell? p = W2.cell? p := World.cell?_of_block (h.mid p.block h1 h2)
end

def DistEnd (w : World) (N : Nat) (ps : List (Int × Int)) (zs : List Int) (e : Ending) (w' : World) : Prop :=
  ∃ S out, e = .returned (.slice (some ⟨S, 0, none⟩) N N) ∧ RowI w' w.heap.size S out ∧ DistOf N ps zs out ∧ Below w.heap.size w w'

set_option maxHeartbeats 8000000 in
set_option maxRecDepth 100000 in
theorem rdist_good (N : Nat) (a : Option Addr) (n c : Nat) (ps : List (Int × Int)) (hl : ps.length = n) (b : Option Addr) (m d : Nat) (zs : List Int) (hzl : zs.length = m) (w : World) (hE : Pairs w a ps) (hg : GOk (N : Int) ps) (hz : Ints w b zs) (hm : m ≤ maxLen) :
    Calls Try.prog 40 #[.agg #[.int .i64 (N : Int), .slice a n c], .slice b m d] w (DistEnd w N ps zs) := by
  obtain ⟨i0, hi, hz0, hz1, hz2⟩ := info_parts int_info
  have hlen := hg.len
  have hN := hg.hi
  rw [hl] at hlen
  unfold maxLen at hm
  obtain ⟨w0, hw0⟩ : ∃ w0, w.alloc (Obj.cells #[Value.int .i64 (N : Int), Value.slice a n c] 24) = w0 := ⟨_, rfl⟩
  have hs0 : w.heap.size < w0.heap.size := by rw [← hw0]; simp
  have q0 : w0.cell? ⟨w.heap.size, 0, none⟩ = some (.int .i64 (N : Int)) := by rw [← hw0]; simp [go_sem]
  have q1 : w0.cell? ⟨w.heap.size, 1, none⟩ = some (.slice a n c) := by rw [← hw0]; simp [go_sem]
  have HB0 : Hid (Below w.heap.size w w0) := by show Below _ _ _; rw [← hw0]; exact (Below.refl w.heap.size w).alloc (Nat.le_refl _) _
  have HE := Lib.hid hE
  have Hl := Lib.hid hl
  have Hg := Lib.hid hg
  have Hw0 := Lib.hid hw0
  have Hz := Lib.hid hz
  have Hzl := Lib.hid hzl
  clear hE hl hg hw0 hz hzl
  go_enter Try.func40, Try.ntmps40
  go_wp2_with (at_make; rw [Hw0.out]; refine wpList_make_full _ rfl _ _ 29 rfl w0.heap.size 3 i0 (.int .i64 0) 1 Try.underlying29 hi hz0 hz1 _ _ _ _ N rfl rfl rfl rfl ?_ ?_ ?_ ?_)
  · rw [hz2]; omega
  · unfold maxLen; omega
  · exact Nat.le_refl _
  intro w1 hown hg1
  have hb1 : Below w0.heap.size w0 w1 := (Below.refl w0.heap.size w0).grown hg1 (Nat.le_refl _) (fun k hk => by cases hk)
  have hrow : RowI w1 w0.heap.size w0.heap.size (minusP N 0) := by
    have e : (minusP N 0).map (Value.int .i64) = (madeCells #[Value.int .i64 0] N).toList := by rw [toList_madeCells_one]; simp [minusP]
    unfold RowI
    rw [length_minusP (Nat.zero_le _), e]
    exact hown
  have Hrow := Lib.hid hrow
  have Hb1 := Lib.hid hb1
  clear hown hg1 hrow hb1
  go_wp2
  go_loopw [7] (fun i wr => ∃ k : Nat, k ≤ N ∧ i = .int .i64 k ∧ RowI wr w0.heap.size w0.heap.size (minusP N k) ∧ Below w0.heap.size w0 wr) (fun i _ => N - (intOf i).toNat)
  case atStart => exact ⟨0, Nat.zero_le _, rfl, Hrow.out, Hb1.out⟩
  case round =>
    obtain ⟨k, hk, rfl, hrw, hbl⟩ := hrel
    have g0 := (hbl.cell (p := ⟨w.heap.size, 0, none⟩) hs0).trans q0
    by_cases hlt : k < N
    · have fR := hrw.free k
      have hr2 := hrw.set k (-1)
      rw [minusP_set hlt] at hr2
      have cR := hrw.cell (i := k) (by rw [length_minusP hk]; exact hlt)
      have Hr2 := Lib.hid hr2
      have Hbl2 := Lib.hid (hbl.setCell (p := ⟨w0.heap.size, k, none⟩) (Nat.le_refl _) (.int .i64 (-1)))
      clear hrw hbl hr2
      go_wp2
      go_roundw
      case rel => exact ⟨k + 1, by omega, by go_num, Hr2.out, Hbl2.out⟩
      case measure => simp [intOf]; omega
    · obtain rfl : N = k := by omega
      have e0 : minusP N N = List.replicate N (-1) := by simp [minusP]
      rw [e0] at hrw
      have hQ : QM wr w0.heap.size (List.replicate N (-1)) (.slice none 0 0) [] := ⟨hrw, Own.nil _ _⟩
      have HQ := Lib.hid hQ
      have Hbl := Lib.hid hbl
      clear hrw hbl hQ e0
      go_wp2
      clear g0
      go_loopw [6, 8] (fun vn i W => ∃ (k : Nat) (st : List Int × List Int), k ≤ m ∧ i = .int .i64 k ∧ BS N zs k st ∧ QM W w0.heap.size st.1 vn st.2 ∧ Below w0.heap.size w0 W) (fun _ i _ => m - (intOf i).toNat)
      case atStart => exact ⟨0, _, Nat.zero_le _, rfl, BS.start N zs, HQ.out, Hbl.out⟩
      case round =>
        clear HQ Hbl
        obtain ⟨k, st, hk, rfl, hB, hQ, hbl⟩ := hrel
        have g0 := (hbl.cell (p := ⟨w.heap.size, 0, none⟩) hs0).trans q0
        have hcl := hB.c.le
        have HB := Lib.hid hB
        have HQ := Lib.hid hQ
        have Hbl := Lib.hid hbl
        have hQlt := hQ.lt
        by_cases hlt : k < m
        · obtain ⟨fb, fo, rfl, hfc⟩ := Hz.out (by rw [Hzl.out]; omega)
          have cF := hfc k (by rw [Hzl.out]; exact hlt)
          have hfb := World.block_lt_of_cell? _ _ cF
          simp only at hfb
          replace cF := ((HB0.out.trans (hbl.mono (Nat.le_of_lt hs0))).cell hfb).trans cF
          obtain ⟨z, hzk⟩ : ∃ z, zs.getD k 0 = z := ⟨_, rfl⟩
          rw [hzk] at cF
          have hkz : k < zs.length := by rw [Hzl.out]; exact hlt
          by_cases hnd : isNd (N : Int) z = true
          · obtain ⟨z0, z1⟩ := isNd_iff.1 hnd
            obtain ⟨x, rfl⟩ : ∃ x : Nat, z = (x : Int) := ⟨z.toNat, by omega⟩
            have hxN : x < N := by omega
            have hxl : x < st.1.length := by rw [hB.c.len]; exact hxN
            have cR := hQ.row.cell hxl
            have fR := hQ.row.free x
            have d0 : decide ((0 : Int) ≤ (x : Int)) = true := decide_eq_true z0
            have d1 : decide ((x : Int) < (N : Int)) = true := decide_eq_true z1
            obtain ⟨o, ho⟩ : ∃ o, st.1.getD x 0 = o := ⟨_, rfl⟩
            rw [ho] at cR
            by_cases hneg : o < 0
            · have d2 : decide (o < 0) = true := decide_eq_true hneg
              have hput := hB.put hkz hzk hnd (by rw [Int.toNat_natCast, ho]; exact hneg)
              have hst : putD st (x : Int) 0 = (st.1.set x 0, st.2 ++ [(x : Int)]) := by unfold putD; rw [Int.toNat_natCast]
              rw [hst] at hput
              have Hput := Lib.hid hput
              have hX : ∀ D, QM ((wr.drewN D).setCell ⟨w0.heap.size, x, none⟩ (.int .i64 0)) w0.heap.size (st.1.set x 0) u6 st.2 := fun D => (hQ.drewN D).store x 0
              have hbX : ∀ D, Below w0.heap.size w0 ((wr.drewN D).setCell ⟨w0.heap.size, x, none⟩ (.int .i64 0)) := fun D => (hbl.trans (Drawn.below ⟨D, rfl⟩ _)).setCell (p := ⟨w0.heap.size, x, none⟩) (Nat.le_refl _) _
              have cF1 : ∀ D u, ((wr.drewN D).setCell ⟨w0.heap.size, x, none⟩ u).cell? ⟨fb, fo + k, none⟩ = some (.int .i64 (x : Int)) := fun D u => cell_kept' (grown_setCell _ _ _ _) cF (.inr (by simp; omega))
              have HX := Lib.hid hX
              have HbX := Lib.hid hbX
              clear hB hQ hbl hput hst hX hbX ho hnd hzk hfc
              go_wp2
              go_quiet (fail)
              go_wp2_with (at_builtin; refine wpList_append_lie rfl _ _ rfl (w0.heap.size + 1) _ st.2 _ rfl rfl ((HX.out _).alloc _).own wr.heap.size (x : Int) rfl (cell_at _ _ _ _ (by simp)) (by omega) (by simp; omega) ?_)
              intro g5 cap5 w5 ho5 hg5 hat5
              have HM5 := Lib.hid (((HX.out _).alloc _).push ho5 hg5)
              have Hb5 := Lib.hid (((HbX.out _).alloc (by simp; omega) _).grown hg5 (by simp; omega) (fun r hr => Nat.le_of_succ_le (World.ownsRow.lt HQ.out.own r hr).1))
              clear ho5 hg5 hat5
              go_wp2
              go_roundw
              case rel => exact ⟨k + 1, (st.1.set x 0, st.2 ++ [(x : Int)]), by omega, by go_num, Hput.out, HM5.out, Hb5.out⟩
              case measure => simp [intOf]; omega
            · have d2 : decide (o < 0) = false := decide_eq_false hneg
              have Hnx := Lib.hid (hB.skip hkz hzk (.inr (by rw [Int.toNat_natCast, ho]; omega)))
              clear hB hQ hbl ho hnd hzk hfc
              go_wp2
              go_quiet (fail)
              go_wp2
              go_roundw
              case rel => exact ⟨k + 1, st, by omega, by go_num, Hnx.out, HQ.out.drewN _, Hbl.out.trans (Drawn.below ⟨_, rfl⟩ _)⟩
              case measure => simp [intOf]; omega
          · have hnd' : isNd (N : Int) z = false := by simpa using hnd
            have Hnx := Lib.hid (hB.skip hkz hzk (.inl hnd'))
            by_cases z0 : 0 ≤ z
            · have z1 : ¬ z < (N : Int) := fun h => hnd (isNd_iff.2 ⟨z0, h⟩)
              have d0 : decide ((0 : Int) ≤ z) = true := decide_eq_true z0
              have d1 : decide (z < (N : Int)) = false := decide_eq_false z1
              clear hB hQ hbl hnd hnd' hzk hfc
              go_wp2
              go_quiet (fail)
              go_wp2
              go_roundw
              case rel => exact ⟨k + 1, st, by omega, by go_num, Hnx.out, HQ.out.drewN _, Hbl.out.trans (Drawn.below ⟨_, rfl⟩ _)⟩
              case measure => simp [intOf]; omega
            · have d0 : decide ((0 : Int) ≤ z) = false := decide_eq_false z0
              clear hB hQ hbl hnd hnd' hzk hfc
              go_wp2
              go_quiet (fail)
              go_wp2
              go_roundw
              case rel => exact ⟨k + 1, st, by omega, by go_num, Hnx.out, HQ.out.drewN _, Hbl.out.trans (Drawn.below ⟨_, rfl⟩ _)⟩
              case measure => simp [intOf]; omega
        · obtain rfl : m = k := by omega
          have hbi := (show BS N zs zs.length st by rw [Hzl.out]; exact hB).bi ps
          have Hbi := Lib.hid hbi
          have hBw := HB0.out.trans (hbl.mono (Nat.le_of_lt hs0))
          have g1 := (hbl.cell (p := ⟨w.heap.size, 1, none⟩) hs0).trans q1
          clear hB hQ hbl hbi
          go_wp2_with fail
          refine (rlists_pairs N a n c ps Hl.out _ (HE.out.below hBw (Nat.le_refl _)) Hg.out).mono ?_
          rintro e w4 ⟨G, vs0, rfl, hvs, hrw, hb4⟩
          have hD0 : DM w4 wr.heap.size w4 w0.heap.size st.1 u6 st.2 := DM.start HQ.out hb4
          have HD0 := Lib.hid hD0
          have Hb4 := Lib.hid (Hbl.out.trans (hb4.mono (Nat.le_of_lt hQlt)))
          have Hrw := Lib.hid hrw
          have Hvs := Lib.hid hvs
          obtain ⟨L1, hL1⟩ : ∃ L1, wr.heap.size = L1 := ⟨_, rfl⟩
          rw [hL1] at HD0 Hrw
          clear hD0 hrw hvs hb4 g1 hBw
          go_wp2
          clear g0
          go_loopw [6, 10] (fun vn i W => ∃ (k : Nat) (st : List Int × List Int), k ≤ N ∧ i = .int .i64 k ∧ BI N ps zs k st ∧ DM w4 L1 W w0.heap.size st.1 vn st.2 ∧ Below w0.heap.size w0 W) (fun _ i _ => N + 1 - (intOf i).toNat)
          case atStart => exact ⟨0, st, Nat.zero_le _, rfl, Hbi.out, HD0.out, Hb4.out⟩
          case round =>
            clear HQ Hbl Hbi HB HD0 Hb4
            obtain ⟨k, st, hk, rfl, hB, hD, hbl⟩ := hrel
            have hcl := hB.c.le
            obtain ⟨q, hq⟩ : ∃ q, st.2.length = q := ⟨_, rfl⟩
            rw [hq] at hcl
            obtain ⟨gs, cs, hvn⟩ := hD.q.own.shape
            rw [hq] at hvn
            obtain ⟨hvn, _⟩ := hvn
            subst hvn
            have Hq := Lib.hid hq
            have HB := Lib.hid hB
            have HD := Lib.hid hD
            have Hbl := Lib.hid hbl
            by_cases hlt : k < q
            · obtain ⟨gs', cs', hvn2, _⟩ := own_shape hD.q.own hq (by omega)
              simp only [Value.slice.injEq] at hvn2
              obtain ⟨rfl, _, rfl⟩ := hvn2
              have cN := own_cell hD.q.own hq (i := k) (by omega)
              obtain ⟨v, hv⟩ : ∃ v, st.2.getD k 0 = v := ⟨_, rfl⟩
              have hvn := hB.c.node v (by rw [← hv]; exact mem_getD _ k (by omega))
              obtain ⟨v, rfl⟩ : ∃ x : Nat, v = (x : Int) := ⟨v.toNat, by omega⟩
              have hvN : v < N := by omega
              rw [hv] at cN
              have hvl : v < (listsL N ps).length := by rw [length_listsL]; exact hvN
              obtain ⟨au, cu, cG, hvv, hzr, _⟩ := Hrw.out.at_ hvl
              have hrlt := fun r h => (World.ownsRow.lt (Hrw.out.row v hvl) r h)
              rw [hvv] at hrlt
              rw [getD_listsL hvN] at cG hzr hrlt
              have hGlt := World.ownsRow.lt Hrw.out.own G rfl
              have hll := succL_take_len ps ps.length (v : Int)
              rw [List.take_length, Hl.out] at hll
              have hnode := fun x hx => succL_node Hg.out x (v := (v : Int)) hx
              obtain ⟨L, hL⟩ : ∃ L, succL ps (v : Int) = L := ⟨_, rfl⟩
              obtain ⟨l, hlL⟩ : ∃ l, L.length = l := ⟨_, rfl⟩
              rw [hL, hlL] at cG hrlt hll
              rw [hL] at hzr hnode
              have hbj := hB.begin (by omega) hv
              have cGw := (hD.cell (p := ⟨G, v, none⟩) hGlt.1 hGlt.2).trans cG
              have Hbj := Lib.hid hbj
              have HL := Lib.hid hL
              have HlL := Lib.hid hlL
              have Hzr := Lib.hid hzr
              have Hnode := Lib.hid hnode
              have Hrlt := Lib.hid hrlt
              have hv1 : (v : Int) < (N : Int) := by omega
              clear hB hD hbl hbj hq hv hvn hvl hvv hzr hrlt hnode hL hlL
              go_wp2
              clear cN cGw
              go_loopw [6, 12] (fun vn i W => ∃ (j : Nat) (st : List Int × List Int), j ≤ l ∧ i = .int .i64 j ∧ BJ N ps zs k (v : Int) j st ∧ DM w4 L1 W w0.heap.size st.1 vn st.2 ∧ Below w0.heap.size w0 W) (fun _ i _ => l - (intOf i).toNat)
              case atStart => exact ⟨0, st, Nat.zero_le _, rfl, Hbj.out, by rw [← Hq.out] at *; exact HD.out, Hbl.out⟩
              case round =>
                clear HB HD Hbl Hbj Hq
                obtain ⟨j, st, hj, rfl, hB, hD, hbl⟩ := hrel
                have hcl := hB.b.c.le
                have cGw := (hD.cell (p := ⟨G, v, none⟩) hGlt.1 hGlt.2).trans cG
                have HB := Lib.hid hB
                have HD := Lib.hid hD
                have Hbl := Lib.hid hbl
                have hDsz := hD.sz
                have hSlt := hD.q.lt
                by_cases hjl : j < l
                · obtain ⟨rb, ro, rfl, hrc⟩ := Hzr.out (by rw [HlL.out]; omega)
                  have cW := hrc j (by rw [HlL.out]; exact hjl)
                  have hrb := Hrlt.out rb rfl
                  obtain ⟨x, hx⟩ : ∃ x, L.getD j 0 = x := ⟨_, rfl⟩
                  rw [hx] at cW
                  have hxn := Hnode.out x (by rw [← hx]; exact mem_getD L j (by rw [HlL.out]; exact hjl))
                  obtain ⟨x, rfl⟩ : ∃ y : Nat, x = (y : Int) := ⟨x.toNat, by omega⟩
                  have hxN : x < N := by omega
                  replace cW := (hD.cell (p := ⟨rb, ro + j, none⟩) hrb.1 hrb.2).trans cW
                  have hxl : x < st.1.length := by rw [hB.b.c.len]; exact hxN
                  have hvl : v < st.1.length := by rw [hB.b.c.len]; exact hvN
                  have cR := hD.q.row.cell hxl
                  have fR := hD.q.row.free x
                  have cV := hD.q.row.cell hvl
                  obtain ⟨o, ho⟩ : ∃ o, st.1.getD x 0 = o := ⟨_, rfl⟩
                  rw [ho] at cR
                  have hx1 : (x : Int) < (N : Int) := by omega
                  have hjS : j < (succL ps (v : Int)).length := by rw [HL.out, HlL.out]; exact hjl
                  have hxS : (succL ps (v : Int)).getD j 0 = (x : Int) := by rw [HL.out]; exact hx
                  by_cases hneg : o < 0
                  · obtain ⟨e, he⟩ : ∃ e, st.1.getD v 0 = e := ⟨_, rfl⟩
                    have he0 := hB.b.c.seen (v : Int) (by rw [← hB.at_]; exact mem_getD _ _ hB.lt)
                    have he1 := hB.b.bnd k hB.lt
                    rw [hB.at_, Int.toNat_natCast, he] at he1
                    rw [Int.toNat_natCast, he] at he0
                    obtain ⟨e, rfl⟩ : ∃ y : Nat, e = (y : Int) := ⟨e.toNat, by omega⟩
                    have heN : e ≤ 8192 := by omega
                    have hput := hB.put hjS hxS hxn.1 hxn.2 (by rw [Int.toNat_natCast, ho]; exact hneg)
                    have hst : putD st (x : Int) (st.1.getD (v : Int).toNat 0 + 1) = (st.1.set x ((e : Int) + 1), st.2 ++ [(x : Int)]) := by unfold putD; rw [Int.toNat_natCast, Int.toNat_natCast, he]
                    rw [hst] at hput
                    rw [he] at cV
                    have Hput := Lib.hid hput
                    have hX := hD.store x ((e : Int) + 1)
                    have hbX := hbl.setCell (p := ⟨w0.heap.size, x, none⟩) (Nat.le_refl _) (.int .i64 ((e : Int) + 1))
                    have HX := Lib.hid hX
                    have HbX := Lib.hid hbX
                    clear hB hD hbl hput hst hX hbX ho hx hrc hxn hjS hxS he he0 he1
                    go_wp2_with (at_builtin; refine wpList_append_lie rfl _ _ rfl (w0.heap.size + 1) _ st.2 _ rfl rfl (HX.out.alloc _).q.own wr.heap.size (x : Int) rfl (cell_at _ _ _ _ (by simp)) (by omega) (by simp; omega) ?_)
                    intro g5 cap5 w5 ho5 hg5 hat5
                    have HM5 := Lib.hid ((HX.out.alloc _).push ho5 hg5 (fun g h => (hat5 g h).imp id (fun e => by simpa using e)))
                    have Hb5 := Lib.hid ((HbX.out.alloc (by simp; omega) _).grown hg5 (by simp; omega) (fun r hr => Nat.le_of_succ_le (World.ownsRow.lt HD.out.q.own r hr).1))
                    clear ho5 hg5 hat5
                    go_wp2
                    go_roundw
                    case rel => exact ⟨j + 1, (st.1.set x ((e : Int) + 1), st.2 ++ [(x : Int)]), by omega, by go_num, Hput.out, HM5.out, Hb5.out⟩
                    case measure => simp [intOf]; omega
                  · have Hnx := Lib.hid (hB.skip hjS hxS hxn.1 hxn.2 (by rw [Int.toNat_natCast, ho]; omega))
                    clear hB hD hbl ho hx hrc hxn hjS hxS cV
                    go_wp2
                    go_roundw
                    case rel => exact ⟨j + 1, st, by omega, by go_num, Hnx.out, HD.out, Hbl.out⟩
                    case measure => simp [intOf]; omega
                · obtain rfl : l = j := by omega
                  have hlt2 := hB.lt
                  have Hnx := Lib.hid (hB.next (by rw [HL.out, HlL.out]; exact Nat.le_refl _))
                  clear hB hD hbl
                  go_wp2
                  go_roundw
                  case rel => exact ⟨k + 1, st, by omega, by go_num, Hnx.out, HD.out, Hbl.out⟩
                  case measure => simp [intOf]; omega
            · have hdist := hB.dist (by omega)
              have Hdist := Lib.hid hdist
              have hrN : Hid (RowI wr w.heap.size w0.heap.size st.1) := ownsRow_mono hD.q.row (Nat.le_of_lt hs0)
              clear hB hD hbl hdist
              go_wp2
              go_ret
              exact ⟨w0.heap.size, st.1, rfl, hrN.out, Hdist.out, HB0.out.trans (Hbl.out.mono (Nat.le_of_lt hs0))⟩
end Go.Proofs.Ythgnbpiemkcdhaa
