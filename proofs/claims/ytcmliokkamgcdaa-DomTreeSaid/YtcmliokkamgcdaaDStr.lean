/-
  Strict of a valid graph.
-/
import Derived.Test.YtcmliokkamgcdaaDIds
namespace Go.Proofs.Ytcmliokkamgcdaa
open Go.RowKit Go.Shelf
set_option linter.unusedVariables false

def StrEnd (w : World) (N root v : Nat) (ps : List (Int × Int)) (e : Ending) (w' : World) : Prop :=
  ∃ r id, IdS N root ps id ∧ e = .returned r ∧ Own w' w.heap.size r (sortN (upI id N v)) ∧ Below w.heap.size w w'
theorem upI_pos {id : List Int} {f y p : Nat} (e : id.getD y 0 = (p : Int)) : upI id (f + 1) y = p :: upI id f p := by
  show (if _ then _ else _) = _
  rw [e, if_neg (by omega), Int.toNat_natCast]
theorem upI_neg {id : List Int} {f y : Nat} (h : id.getD y 0 < 0) : upI id f y = [] := by
  cases f with
  | zero => rfl
  | succ f => show (if _ then _ else _) = _; rw [if_pos h]
/-- Where the way up stands. -/
structure UpAt (N k : Nat) (nd : List Nat) (id : List Int) (v y f : Nat) (pre : List Nat) : Prop where
  lt : y < N
  all : pre ++ upI id f y = upI id N v
  at_ : id.getD y 0 = -1 ∨ ∃ j, j < f ∧ j < k ∧ y = nd.getD j 0
theorem UpAt.start {N k v : Nat} {nd : List Nat} {D : Nat → Nat} {id : List Int} (t : TreeOf N k nd D id) (hv : v < N) : UpAt N k nd id v v N [] := by
  refine ⟨hv, rfl, ?_⟩
  by_cases e : v ∈ nd
  · obtain ⟨j, hj, rfl⟩ := List.getElem_of_mem e
    have := d_nodup_len t.nodup t.node
    exact .inr ⟨j, by omega, by rw [← t.lk]; exact hj, by simp [List.getD_eq_getElem?_getD, hj]⟩
  · exact .inl (t.off v hv e)
theorem UpAt.step {N k v y f : Nat} {nd : List Nat} {D : Nat → Nat} {id : List Int} {pre : List Nat} (t : TreeOf N k nd D id) (h : UpAt N k nd id v y f pre) (h0 : 0 ≤ id.getD y 0) :
    ∃ p f' : Nat, id.getD y 0 = (p : Int) ∧ f = f' + 1 ∧ p < N ∧ UpAt N k nd id v p f' (pre ++ [p]) := by
  obtain ⟨j, hj, hk, rfl⟩ := h.at_.resolve_left (by omega)
  have hj0 : 0 < j := by
    rcases Nat.eq_zero_or_pos j with e | e
    · subst e; rw [t.root] at h0; omega
    · exact e
  have e := t.at_ j hj0 hk
  have hl := t.lt j hj0 hk
  obtain ⟨f', rfl⟩ : ∃ f', f = f' + 1 := ⟨f - 1, by omega⟩
  have hp : nd.getD (D j) 0 < N := t.node _ (at_mem (by rw [t.lk]; omega))
  refine ⟨nd.getD (D j) 0, f', e, rfl, hp, hp, ?_, .inr ⟨D j, by omega, by omega, rfl⟩⟩
  have := h.all
  rw [upI_pos e] at this
  rw [← this]; simp
theorem UpAt.fin {N k v y f : Nat} {nd : List Nat} {id : List Int} {pre : List Nat} (h : UpAt N k nd id v y f pre) (h0 : id.getD y 0 < 0) : pre = upI id N v := by
  have := h.all
  rw [upI_neg h0] at this
  simpa using this
set_option maxHeartbeats 4000000 in
set_option maxRecDepth 100000 in
theorem strict_good (N root v : Nat) (a : Option Addr) (n c : Nat) (ps : List (Int × Int)) (hl : ps.length = n) (w : World) (hE : Pairs w a ps) (hok : gchk (N : Int) ps = 0) (hr : root < N) (hv : v < N) :
    Calls Try.prog 16 #[.agg #[.int .i64 (N : Int), .slice a n c], .int .i64 (root : Int), .int .i64 (v : Int)] w (StrEnd w N root v ps) := by
  have hg := gchk_ok hok
  have hlen := hg.len
  have hN := hg.hi
  rw [hl] at hlen
  obtain ⟨w0, hw0⟩ : ∃ w0, w.alloc (Obj.cells #[Value.int .i64 (N : Int), Value.slice a n c] 24) = w0 := ⟨_, rfl⟩
  have hz0 : w0.heap.size = w.heap.size + 1 := by rw [← hw0]; simp
  have g0 : w0.cell? ⟨w.heap.size, 0, none⟩ = some (.int .i64 (N : Int)) := by rw [← hw0]; simp [go_sem]
  have g1 : w0.cell? ⟨w.heap.size, 1, none⟩ = some (.slice a n c) := by rw [← hw0]; simp [go_sem]
  have hb0 : Below w.heap.size w w0 := by rw [← hw0]; exact (Below.refl w.heap.size w).alloc (Nat.le_refl _) _
  have HB0 := Lib.hid hb0
  have HE := Lib.hid (hE.below hb0 (Nat.le_refl _))
  have Hl := Lib.hid hl
  have Hg := Lib.hid hg
  have Hok := Lib.hid hok
  have Hw0 := Lib.hid hw0
  clear hE hb0 hl hg hok hw0
  go_enter Try.func16, Try.ntmps16
  go_wp2_with fail
  rw [Hw0.out]
  refine (doms_good N root a n c ps Hl.out w0 HE.out Hok.out hr).mono ?_
  rintro e w1 ⟨gi, gp, gz, id, pl, z, rfl, hri, hrp, hrz, htd, hb1⟩
  have hs1 := hb1.size
  obtain ⟨w2, hw2⟩ : ∃ w2, w1.alloc (Obj.cells #[.slice (some ⟨gi, 0, none⟩) N N, .slice (some ⟨gp, 0, none⟩) N N, .slice (some ⟨gz, 0, none⟩) N N] 54) = w2 := ⟨_, rfl⟩
  have hz2 : w2.heap.size = w1.heap.size + 1 := by rw [← hw2]; simp
  have hb2 : Below w1.heap.size w1 w2 := by rw [← hw2]; exact (Below.refl w1.heap.size w1).alloc (Nat.le_refl _) _
  have b3 : B3 w2 w1.heap.size (.slice (some ⟨gi, 0, none⟩) N N) (.slice (some ⟨gp, 0, none⟩) N N) (.slice (some ⟨gz, 0, none⟩) N N) := by
    have := B3.new w1 (.slice (some ⟨gi, 0, none⟩) N N) (.slice (some ⟨gp, 0, none⟩) N N) (.slice (some ⟨gz, 0, none⟩) N N)
    rw [hw2] at this; exact this
  have g0' := (hb1.cell (p := ⟨w.heap.size, 0, none⟩) (by show w.heap.size < _; omega)).trans g0
  have g1' := (hb1.cell (p := ⟨w.heap.size, 1, none⟩) (by show w.heap.size < _; omega)).trans g1
  have k0 : Hid (∀ X, Below w1.heap.size w1 X → X.cell? ⟨w.heap.size, 0, none⟩ = some (.int .i64 (N : Int)) ∧ X.cell? ⟨w.heap.size, 1, none⟩ = some (.slice a n c)) := fun X hX =>
    ⟨(hX.cell (p := ⟨w.heap.size, 0, none⟩) (by show w.heap.size < _; omega)).trans g0', (hX.cell (p := ⟨w.heap.size, 1, none⟩) (by show w.heap.size < _; omega)).trans g1'⟩
  have ga0 : ∀ o, (w1.alloc o).cell? ⟨w.heap.size, 0, none⟩ = some (.int .i64 (N : Int)) := fun o => (k0.out _ ((Below.refl _ _).alloc (Nat.le_refl _) o)).1
  have ga1 : ∀ o, (w1.alloc o).cell? ⟨w.heap.size, 1, none⟩ = some (.slice a n c) := fun o => (k0.out _ ((Below.refl _ _).alloc (Nat.le_refl _) o)).2
  have HW := Lib.hid (HB0.out.trans ((hb1.trans (hb2.mono hs1)).mono (by omega)))
  have HB2 := Lib.hid hb2
  have HB3 := Lib.hid b3
  have Hw2 := Lib.hid hw2
  have hN' : N ≤ 8192 := by omega
  have hids := htd.ids
  obtain ⟨nd, par, rest, D, k, fr, hex, ht, _, _, _⟩ := htd.ex
  have hup := hids.up v hv
  have hI2 := hri.ints.below hb2 (Nat.le_refl _)
  have HI2 := Lib.hid hI2
  have HT := Lib.hid ht
  have Hids := Lib.hid hids
  have hul := d_nodup_len hup.2.1 hup.2.2
  have Hc2 : Hid (∀ X, Calls Try.prog 33 #[.agg #[.int .i64 (N : Int), .slice a n c], .int .i64 (v : Int)] X fun e w' => e = .returned (.bool true) ∧ Below X.heap.size X w') := fun X => dnode_any N v a n c true (isNd_iff.2 ⟨by omega, by omega⟩) X
  clear hb1 hri hrp hrz htd hb2 b3 hw2 g0 g1 g0' g1' hids hex ht hup hI2 k0
  go_wp2_with fail
  rw [Hw2.out]
  refine (Hc2.out _).mono ?_
  rintro e w4 ⟨rfl, hb4⟩
  have hs4 := hb4.size
  have bx := HB3.out.ext hb4
  have HB34 := Lib.hid bx
  have HI4 := Lib.hid (HI2.out.below hb4 (Nat.le_refl _))
  have HW4 := Lib.hid (HW.out.trans (hb4.mono HW.out.size))
  have d0 := bx.c0
  have hln : id.length = N := HT.out.ln
  have cV := ints_cell HI4.out (i := v) (by rw [hln]; exact hv)
  obtain ⟨x0, hx0⟩ : ∃ x, id.getD v 0 = x := ⟨_, rfl⟩
  rw [hx0] at cV
  have Hx0 := Lib.hid hx0
  have hO : Hid (Own w4 w4.heap.size nl (ni [])) := Own.nil _ _
  have hB9 : Hid (Below w4.heap.size w4 w4) := Below.refl _ _
  have hU : Hid (UpAt N k nd id v v N []) := UpAt.start HT.out hv
  clear hb4 bx hx0
  go_wp2
  go_loopg [9, 10] N (fun f l x W => ∃ (y : Nat) (pre : List Nat), x = .int .i64 (id.getD y 0) ∧ f + pre.length = N ∧ Hid (UpAt N k nd id v y f pre) ∧ Hid (Own W w4.heap.size l (ni pre)) ∧ Hid (Below w4.heap.size w4 W))
  case atStart => exact ⟨v, [], by rw [Hx0.out], rfl, hU, hO, hB9⟩
  case round =>
    rename Nat => f
    clear hU hO hB9 d0 cV
    obtain ⟨y, pre, rfl, hfl, hU, hO, hB⟩ := hrel
    have bx := HB34.out.ext hB.out
    have d0 := bx.c0
    obtain ⟨au, cu, rfl, _⟩ := hO.out.shape
    rw [ni_len] at hO ⊢
    obtain ⟨x, hx⟩ : ∃ x, id.getD y 0 = x := ⟨_, rfl⟩
    rw [hx]
    by_cases h0 : 0 ≤ x
    · obtain ⟨p, f', he, rfl, hp, hU2⟩ := hU.out.step HT.out (by rw [hx]; exact h0)
      obtain rfl : x = (p : Int) := by rw [← hx]; exact he
      have cP := ints_cell (HI4.out.below hB.out (Nat.le_refl _)) (i := p) (by rw [hln]; exact hp)
      obtain ⟨s, hs⟩ : ∃ s, pre.length = s := ⟨_, rfl⟩
      rw [hs] at hO hfl ⊢
      obtain ⟨xp, hxp⟩ : ∃ x, id.getD p 0 = x := ⟨_, rfl⟩
      rw [hxp] at cP
      have Hxp := Lib.hid hxp
      have hwz := hB.out.size
      have Hs := Lib.hid hs
      have HU2 := Lib.hid hU2
      have hpa : ∀ o, (wr.alloc o).cell? ⟨gi, p, none⟩ = some (.int .i64 xp) := fun o => by
        have hlt := World.block_lt_of_cell? _ _ cP
        exact (((Below.refl wr.heap.size wr).alloc (Nat.le_refl _) o).cell (p := ⟨gi, p, none⟩) hlt).trans cP
      have h8 : Hid (∀ g cap w8, Own w8 w4.heap.size (.slice (some ⟨g, 0, none⟩) (s + 1) cap) (ni pre ++ [(p : Int)]) → (wr.alloc (.cells #[.int .i64 (p : Int)] 3)).grownBy w8 (Value.slice au s cu).ownBlock → Hid (Own w8 w4.heap.size (.slice (some ⟨g, 0, none⟩) (s + 1) cap) (ni (pre ++ [p]))) ∧ Hid (Below w4.heap.size w4 w8) ∧ w8.cell? ⟨w1.heap.size, 0, none⟩ = some (.slice (some ⟨gi, 0, none⟩) N N) ∧ w8.cell? ⟨gi, p, none⟩ = some (.int .i64 xp)) := fun g cap w8 ho hg => by
        have hb8 : Below w4.heap.size w4 w8 := (hB.out.alloc hwz (.cells #[.int .i64 (p : Int)] 3)).grown hg (by simp; omega) (fun k hk => (World.ownsRow.lt hO.out k hk).1)
        refine ⟨?_, hb8, (HB34.out.ext hb8).c0, by rw [← hxp]; exact ints_cell (HI4.out.below hb8 (Nat.le_refl _)) (i := p) (by rw [hln]; exact hp)⟩
        show Own _ _ _ _
        rw [show ni (pre ++ [p]) = ni pre ++ [(p : Int)] by simp [ni]]; exact ho
      clear hx hs he hU hU2 bx cP hxp
      go_wp2_with (at_builtin; refine wpList_append_big rfl _ _ rfl w4.heap.size _ (ni pre) s (by rw [ni_len]; exact Hs.out) rfl (hO.out.alloc _) wr.heap.size (p : Int) rfl (by simp [go_sem]) (by omega) (by simp; omega) ?_; intro g8 cap8 w8 ho8 hg8 hat8; obtain ⟨O8, B8, d8, p8⟩ := h8.out g8 cap8 w8 ho8 hg8; clear ho8 hg8 hat8)
      go_roundg f'
      case measure => omega
      case rel => exact ⟨p, pre ++ [p], by rw [Hxp.out], by rw [List.length_append, List.length_singleton]; have := Hs.out; omega, HU2, O8, B8⟩
    · have hpre := hU.out.fin (by rw [hx]; omega)
      have hcall := sortI_any w4.heap.size _ (ni pre) wr hO.out (by rw [ni_len]; omega)
      have hfin : ∀ w9, Own w9 w4.heap.size (.slice au pre.length cu) ((ni pre).mergeSort fun x y => decide (x ≤ y)) → wr.grownBy w9 (Value.slice au pre.length cu).ownBlock → Hid (StrEnd w N root v ps (.returned (.slice au pre.length cu)) w9) := fun w9 ho hg =>
        ⟨_, id, Hids.out, rfl, by unfold sortN; rw [← hpre]; exact ho.mono HW4.out.size, (HW4.out.trans (hB.out.mono HW4.out.size)).grown hg (Nat.le_trans HW4.out.size hB.out.size) (fun k hk => Nat.le_trans HW4.out.size (World.ownsRow.lt hO.out k hk).1)⟩
      have Hcall := Lib.hid hcall
      have Hfin := Lib.hid hfin
      clear hpre hcall hfin hO hU hB bx hx
      go_wp2_with fail
      refine Hcall.out.mono ?_
      rintro e w9 ⟨rfl, ho9, hg9⟩
      have hend := Hfin.out w9 ho9 hg9
      clear ho9 hg9 Hcall Hfin
      go_wp2
      go_ret
      exact hend.out
end Go.Proofs.Ytcmliokkamgcdaa
