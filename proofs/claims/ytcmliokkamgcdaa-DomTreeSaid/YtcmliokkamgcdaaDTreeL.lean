/-
  The law DomTree.
-/
import Derived.Test.YtcmliokkamgcdaaDNin
import Derived.Test.YtcmliokkamgcdaaDStr
namespace Go.Proofs.Ytcmliokkamgcdaa
open Go.RowKit Go.Shelf
set_option linter.unusedVariables false

theorem dom_rch {ps : List (Int × Int)} {root a v : Nat} (h : domN ps root a v) : rch ps root a := by
  apply Classical.byContradiction
  intro hn
  have key : ∀ b, rch ps root b → Rg (fun u v => v ∈ suD ps u) (· ≠ a) root b := fun b hb => by
    induction hb with
    | refl => exact .refl
    | tail r e _ ih => exact ih.tail e (fun q => hn (by subst q; exact Rg.tail r e trivial))
  have := h.2 (key v h.1)
  subst this
  exact hn .refl
/-- Where the law's way up stands. -/
structure UpL (N : Nat) (id : List Int) (v y f : Nat) (pre : List Nat) : Prop where
  lt : y < N
  all : pre ++ upI id f y = upI id N v
  len : f + pre.length = N
theorem UpL.start {N v : Nat} {id : List Int} (hv : v < N) : UpL N id v v N [] := ⟨hv, rfl, rfl⟩
theorem UpL.step {N root v y f : Nat} {ps : List (Int × Int)} {id : List Int} {pre : List Nat} (s : IdS N root ps id) (hv : v < N) (h : UpL N id v y f pre) (h0 : 0 ≤ id.getD y 0) :
    ∃ p f' : Nat, id.getD y 0 = (p : Int) ∧ f = f' + 1 ∧ p < N ∧ p ∈ upI id N v ∧ (id.getD p 0 < 0 → p = root) ∧ UpL N id v p f' (pre ++ [p]) := by
  obtain ⟨u1, u2, u3⟩ := s.up v hv
  obtain ⟨p, hp⟩ : ∃ p : Nat, id.getD y 0 = (p : Int) := ⟨(id.getD y 0).toNat, by omega⟩
  have hall := h.all
  have hlen := h.len
  cases f with
  | zero =>
    exfalso
    have e : pre = upI id N v := by simpa [upI] using hall
    have hnv : v ∉ upI id N v := fun hm => ((u1 v).1 hm).2 rfl
    have := d_nodup_len (N := N) (l := v :: upI id N v) (List.nodup_cons.2 ⟨hnv, u2⟩) (fun x hx => by
      rcases List.mem_cons.1 hx with rfl | hx
      · exact hv
      · exact u3 x hx)
    rw [List.length_cons, ← e] at this
    omega
  | succ f' =>
    rw [upI_pos hp] at hall
    have hm : p ∈ upI id N v := by rw [← hall]; simp
    have hpN := u3 p hm
    refine ⟨p, f', hp, rfl, hpN, hm, fun hneg => ?_, ⟨hpN, by rw [← hall]; simp, by rw [List.length_append, List.length_singleton]; omega⟩⟩
    apply Classical.byContradiction
    intro hr
    obtain ⟨q, _, e, _⟩ := s.at_ p hpN (dom_rch ((u1 p).1 hm).1) hr
    omega
theorem UpL.fin {N v y f : Nat} {id : List Int} {pre : List Nat} (h : UpL N id v y f pre) (h0 : id.getD y 0 < 0) : pre.length = (upI id N v).length := by
  have := h.all
  rw [upI_neg h0] at this
  rw [← this]; simp
theorem sortN_len (l : List Nat) : (sortN l).length = l.length := by unfold sortN; rw [List.length_mergeSort, ni_len]
theorem sortN_mem {l : List Nat} {p : Nat} (h : p ∈ l) : (p : Int) ∈ sortN l := by
  unfold sortN; rw [List.mem_mergeSort]; unfold ni; exact List.mem_map.2 ⟨p, h, rfl⟩

set_option maxHeartbeats 8000000 in
set_option maxRecDepth 100000 in
theorem tree_row (N : Int) (a : Option Addr) (c : Nat) (ps : List (Int × Int)) (root v : Int) (w : World) (hE : Edg w a c ps) :
    Calls Try.prog 6 #[.agg #[.int .i64 N, .slice a ps.length c], .int .i64 root, .int .i64 v] w fun e w' => e = .returned (.bool true) ∧ Below w.heap.size w w' := by
  obtain ⟨n, hl⟩ : ∃ n, ps.length = n := ⟨_, rfl⟩
  have hn : n ≤ maxLen := by rw [← hl]; exact Nat.le_trans hE.cap hE.max
  rw [hl]
  obtain ⟨w0, hw0⟩ : ∃ w0, w.alloc (Obj.cells #[Value.int .i64 N, Value.slice a n c] 24) = w0 := ⟨_, rfl⟩
  have hz0 : w0.heap.size = w.heap.size + 1 := by rw [← hw0]; simp
  have g0 : w0.cell? ⟨w.heap.size, 0, none⟩ = some (.int .i64 N) := by rw [← hw0]; simp [go_sem]
  have g1 : w0.cell? ⟨w.heap.size, 1, none⟩ = some (.slice a n c) := by rw [← hw0]; simp [go_sem]
  have hb0 : Below w.heap.size w w0 := by rw [← hw0]; exact (Below.refl w.heap.size w).alloc (Nat.le_refl _) _
  have HE := Lib.hid (hE.pairs.below hb0 (Nat.le_refl _))
  have HB0 := Lib.hid hb0
  have Hw0 := Lib.hid hw0
  have Hl := Lib.hid hl
  have Haw : Hid (∀ X, Below w.heap.size w X → Calls Try.prog 10 #[] X fun e w' => e = .returned (.bool true) ∧ Hid (Below w.heap.size w w')) := fun X hX => (awake_any X).mono fun e w' ⟨h1, h2⟩ => ⟨h1, hX.trans (h2.mono hX.size)⟩
  have Hnode : Hid (∀ x X, Below w0.heap.size w0 X → Calls Try.prog 26 #[.agg #[.int .i64 N, .slice a n c], .int .i64 x] X fun e w' => e = .returned (.bool (nodeB N ps x)) ∧ Below X.heap.size X w') := fun x X hX => node_any N x a n c ps hl X (HE.out.below hX (Nat.le_refl _)) hn
  clear hE hb0 hw0 hl
  by_cases c1 : n > 300
  · go_enter Try.func6, Try.ntmps6
    go_wp2_with fail
    rw [Hw0.out]
    refine (Haw.out _ HB0.out).mono ?_
    rintro e w1 ⟨rfl, hb1⟩
    go_wp2
    go_ret
    exact ⟨rfl, hb1.out⟩
  · by_cases c2 : N > 300
    · go_enter Try.func6, Try.ntmps6
      go_wp2_with fail
      rw [Hw0.out]
      refine (Haw.out _ HB0.out).mono ?_
      rintro e w1 ⟨rfl, hb1⟩
      go_wp2
      go_ret
      exact ⟨rfl, hb1.out⟩
    · obtain ⟨b1, hb1⟩ : ∃ b, nodeB N ps root = b := ⟨_, rfl⟩
      obtain ⟨b2, hb2⟩ : ∃ b, nodeB N ps v = b := ⟨_, rfl⟩
      have Hn1 := Lib.hid (Hnode.out root)
      have Hn2 := Lib.hid (Hnode.out v)
      rw [hb1] at Hn1
      rw [hb2] at Hn2
      clear Hnode
      have hs0 : w0.heap.size ≤ w0.heap.size := Nat.le_refl _
      cases b1 with
      | false =>
        clear hb1 hb2 Hn2
        go_enter Try.func6, Try.ntmps6
        go_wp2_with fail
        rw [Hw0.out]
        refine (Hn1.out _ (Below.refl _ _)).mono ?_
        rintro e w1 ⟨rfl, hb1⟩
        have HB1 := Lib.hid (HB0.out.trans (hb1.mono (by omega)))
        clear hb1 g0 g1
        go_wp2_with fail
        refine (Haw.out _ HB1.out).mono ?_
        rintro e w2 ⟨rfl, hb2⟩
        go_wp2
        go_ret
        exact ⟨rfl, hb2.out⟩
      | true =>
        cases b2 with
        | false =>
          clear hb1 hb2
          go_enter Try.func6, Try.ntmps6
          go_wp2_with fail
          rw [Hw0.out]
          refine (Hn1.out _ (Below.refl _ _)).mono ?_
          rintro e w1 ⟨rfl, hb1⟩
          have k0 := (hb1.cell (p := ⟨w.heap.size, 0, none⟩) (by show w.heap.size < _; omega)).trans g0
          have k1 := (hb1.cell (p := ⟨w.heap.size, 1, none⟩) (by show w.heap.size < _; omega)).trans g1
          have hs1 := hb1.size
          have HB01 := Lib.hid hb1
          clear hb1 g0 g1
          go_wp2_with fail
          refine (Hn2.out _ HB01.out).mono ?_
          rintro e w2 ⟨rfl, hb2⟩
          have HB2 := Lib.hid (HB0.out.trans ((HB01.out.trans (hb2.mono hs1)).mono (by omega)))
          clear hb2 k0 k1
          go_wp2_with fail
          refine (Haw.out _ HB2.out).mono ?_
          rintro e w3 ⟨rfl, hb3⟩
          go_wp2
          go_ret
          exact ⟨rfl, hb3.out⟩
        | true =>
          unfold nodeB at hb1 hb2
          rw [Bool.and_eq_true, decide_eq_true_eq] at hb1 hb2
          obtain ⟨hok, hr⟩ := hb1
          obtain ⟨r1, r2⟩ := isNd_iff.1 hr
          obtain ⟨v1, v2⟩ := isNd_iff.1 hb2.2
          obtain ⟨M, rfl⟩ : ∃ M : Nat, N = M := ⟨N.toNat, by omega⟩
          obtain ⟨r, rfl⟩ : ∃ r : Nat, root = r := ⟨root.toNat, by omega⟩
          obtain ⟨y, rfl⟩ : ∃ y : Nat, v = y := ⟨v.toNat, by omega⟩
          have hrM : r < M := by omega
          have hyM : y < M := by omega
          have hM3 : M ≤ 300 := by omega
          have hn3 : n ≤ 300 := by omega
          have Hok := Lib.hid hok
          clear hb2 hr hok r1 r2 v1 v2
          go_enter Try.func6, Try.ntmps6
          go_wp2_with fail
          rw [Hw0.out]
          refine (Hn1.out _ (Below.refl _ _)).mono ?_
          rintro e w1 ⟨rfl, hb1⟩
          have k0 := (hb1.cell (p := ⟨w.heap.size, 0, none⟩) (by show w.heap.size < _; omega)).trans g0
          have k1 := (hb1.cell (p := ⟨w.heap.size, 1, none⟩) (by show w.heap.size < _; omega)).trans g1
          have hs1 := hb1.size
          have HB01 := Lib.hid hb1
          clear hb1 g0 g1
          go_wp2_with fail
          refine (Hn2.out _ HB01.out).mono ?_
          rintro e w2 ⟨rfl, hb2⟩
          have m0 := (hb2.cell (p := ⟨w.heap.size, 0, none⟩) (by show w.heap.size < _; omega)).trans k0
          have m1 := (hb2.cell (p := ⟨w.heap.size, 1, none⟩) (by show w.heap.size < _; omega)).trans k1
          have hs2 := hb2.size
          have HB02 := Lib.hid (HB01.out.trans (hb2.mono hs1))
          clear hb2 k0 k1
          go_wp2_with fail
          refine (idom_good M r a n c ps Hl.out w2 (HE.out.below HB02.out (Nat.le_refl _)) Hok.out hrM).mono ?_
          rintro e w3 ⟨gi, id, rfl, hri, hids, hb3⟩
          have j0 := (hb3.cell (p := ⟨w.heap.size, 0, none⟩) (by show w.heap.size < _; omega)).trans m0
          have j1 := (hb3.cell (p := ⟨w.heap.size, 1, none⟩) (by show w.heap.size < _; omega)).trans m1
          have hs3 := hb3.size
          have HB03 := Lib.hid (HB02.out.trans (hb3.mono (by omega)))
          have hln := hids.ln
          have hiR := hri.cell (i := r) (by omega)
          rw [hids.rt] at hiR
          have HI := Lib.hid hri.ints
          have Hids := Lib.hid hids
          clear hb3 hri hids m0 m1
          go_wp2_with fail
          refine (strict_good M r y a n c ps Hl.out w3 (HE.out.below HB03.out (Nat.le_refl _)) Hok.out hrM hyM).mono ?_
          rintro e w4 ⟨rs, id2, hids2, rfl, hos, hb4⟩
          have hii := Hids.out.unique hids2
          subst hii
          have i0 := (hb4.cell (p := ⟨w.heap.size, 0, none⟩) (by show w.heap.size < _; omega)).trans j0
          have hs4 := hb4.size
          have HB04 := Lib.hid (HB03.out.trans (hb4.mono (by omega)))
          have HI4 := Lib.hid (HI.out.below hb4 (Nat.le_refl _))
          obtain ⟨ra, rc, rfl, hri⟩ := hos.shape
          have cY := ints_cell HI4.out (i := y) (by omega)
          obtain ⟨xy, hxy⟩ : ∃ x, id.getD y 0 = x := ⟨_, rfl⟩
          rw [hxy] at cY
          have HR4 := Lib.hid hri
          rw [sortN_len]
          have hup := d_nodup_len (Hids.out.up y hyM).2.1 (Hids.out.up y hyM).2.2
          obtain ⟨m, hm⟩ : ∃ m, (upI id M y).length = m := ⟨_, rfl⟩
          rw [hm] at hup ⊢
          have Hi0 := Lib.hid i0
          have Hm := Lib.hid hm
          have Hxy := Lib.hid hxy
          have hU : Hid (UpL M id y y M []) := UpL.start hyM
          have hB44 : Hid (Below w4.heap.size w4 w4) := Below.refl _ _
          clear hb4 hos hri hids2 j0 j1 hm hxy hiR HI
          go_wp2
          go_loopg [10, 11] M (fun f s x W => ∃ (q j : Nat) (pre : List Nat), s = .int .i64 (j : Int) ∧ x = .int .i64 (id.getD q 0) ∧ j ≤ M ∧ Hid (pre.length = j) ∧ Hid (UpL M id y q f pre) ∧ Hid (Below w4.heap.size w4 W))
          case atStart => exact ⟨y, 0, [], rfl, by rw [Hxy.out], Nat.zero_le _, rfl, hU, hB44⟩
          case round =>
            rename Nat => f
            clear hU hB44 i0 cY
            obtain ⟨q, j, pre, rfl, rfl, hjM, hj, hU, hB⟩ := hrel
            have hwz := hB.out.size
            have e0 : Hid (∀ X, Below wr.heap.size wr X → X.cell? ⟨w.heap.size, 0, none⟩ = some (.int .i64 (M : Int))) := fun X hX => ((hB.out.trans (hX.mono hwz)).cell (p := ⟨w.heap.size, 0, none⟩) (by show w.heap.size < _; omega)).trans Hi0.out
            have z0 := e0.out wr (Below.refl _ _)
            obtain ⟨x, hx⟩ : ∃ x, id.getD q 0 = x := ⟨_, rfl⟩
            rw [hx]
            by_cases h0 : 0 ≤ x
            · obtain ⟨p, f', he, rfl, hp, hmem, hroot, hU2⟩ := hU.out.step Hids.out hyM (by rw [hx]; exact h0)
              obtain rfl : x = (p : Int) := by rw [← hx]; exact he
              have hcall := in_any ra m rc (sortN (upI id M y)) (p : Int) (by rw [sortN_len]; exact Hm.out) (by omega) wr (HR4.out.below hB.out (Nat.le_refl _))
              rw [decide_eq_true (sortN_mem hmem)] at hcall
              have Hcall := Lib.hid hcall
              obtain ⟨xp, hxp⟩ : ∃ x, id.getD p 0 = x := ⟨_, rfl⟩
              have hcp : Hid (∀ X, Below wr.heap.size wr X → X.cell? ⟨gi, p, none⟩ = some (.int .i64 xp)) := fun X hX => by
                rw [← hxp]; exact ints_cell (HI4.out.below (hB.out.trans (hX.mono hwz)) (Nat.le_refl _)) (i := p) (by omega)
              have hj1 : j + 1 ≤ M := by have := hU2.len; have := hj.out; rw [List.length_append, List.length_singleton] at *; omega
              rw [hxp] at hroot
              have HU2 := Lib.hid hU2
              have Hxp := Lib.hid hxp
              have hj2 : Hid ((pre ++ [p]).length = j + 1) := by show _ = _; rw [List.length_append, List.length_singleton, hj.out]
              clear hx he hU hU2 hmem hcall hxp hj
              by_cases hneg : xp < 0
              · obtain rfl := hroot hneg
                go_wp2_with fail
                refine Hcall.out.mono ?_
                rintro e w5 ⟨rfl, hb5⟩
                have y0 := e0.out w5 hb5
                have cP := hcp.out w5 hb5
                have HB5 := Lib.hid (hB.out.trans (hb5.mono hwz))
                clear hb5 z0 hcp e0
                go_wp2
                go_roundg f'
                case measure => omega
                case rel => exact ⟨p, j + 1, pre ++ [p], by go_num, by rw [Hxp.out], hj1, hj2, HU2, HB5⟩
              · go_wp2_with fail
                refine Hcall.out.mono ?_
                rintro e w5 ⟨rfl, hb5⟩
                have y0 := e0.out w5 hb5
                have cP := hcp.out w5 hb5
                have HB5 := Lib.hid (hB.out.trans (hb5.mono hwz))
                clear hb5 z0 hcp e0 hroot
                go_wp2
                go_roundg f'
                case measure => omega
                case rel => exact ⟨p, j + 1, pre ++ [p], by go_num, by rw [Hxp.out], hj1, hj2, HU2, HB5⟩
            · have hfin := hU.out.fin (by rw [hx]; omega)
              rw [hj.out, Hm.out] at hfin
              subst hfin
              have HBx := Lib.hid (HB0.out.trans ((HB04.out.trans (hB.out.mono (by omega))).mono (by omega)))
              clear hU hB hx e0
              go_wp2_with fail
              refine (Haw.out _ HBx.out).mono ?_
              rintro e w6 ⟨rfl, hb6⟩
              go_wp2
              go_ret
              exact ⟨rfl, hb6.out⟩
end Go.Proofs.Ytcmliokkamgcdaa
