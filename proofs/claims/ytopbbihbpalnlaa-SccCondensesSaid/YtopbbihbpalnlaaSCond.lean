/-
  Condense.
-/
import Derived.Test.YtopbbihbpalnlaaSOf
import Derived.Test.YtopbbihbpalnlaaGMake2
namespace Go.Proofs.Ytopbbihbpalnlaa
open Go.RowKit Go.Shelf
set_option linter.unusedVariables false
def ixAt (N : Nat) (L : List (List Nat)) (v : Int) : Int := (idxTo N (L.map ni) L.length).getD v.toNat 0
/-- The edges between the components. -/
def condP (N : Nat) (L : List (List Nat)) (ps : List (Int × Int)) : List (Int × Int) := ps.filterMap fun e => if ixAt N L e.1 = ixAt N L e.2 then none else some (ixAt N L e.1, ixAt N L e.2)
theorem condP_snoc (N : Nat) (L : List (List Nat)) (ps : List (Int × Int)) (e : Int × Int) : condP N L (ps ++ [e]) = condP N L ps ++ (if ixAt N L e.1 = ixAt N L e.2 then [] else [(ixAt N L e.1, ixAt N L e.2)]) := by
  unfold condP
  rw [List.filterMap_append]
  congr 1
  by_cases h : ixAt N L e.1 = ixAt N L e.2 <;> simp [h]
theorem condP_len (N : Nat) (L : List (List Nat)) (ps : List (Int × Int)) : (condP N L ps).length ≤ ps.length := List.length_filterMap_le _ _
theorem mem_condP {N : Nat} {L : List (List Nat)} {ps : List (Int × Int)} {x : Int × Int} : x ∈ condP N L ps ↔ ∃ e ∈ ps, ixAt N L e.1 = x.1 ∧ ixAt N L e.2 = x.2 ∧ x.1 ≠ x.2 := by
  unfold condP
  rw [List.mem_filterMap]
  constructor
  · rintro ⟨e, he, e2⟩
    by_cases hc : ixAt N L e.1 = ixAt N L e.2
    · rw [if_pos hc] at e2; cases e2
    · rw [if_neg hc] at e2; cases e2
      exact ⟨e, he, rfl, rfl, hc⟩
  · rintro ⟨e, he, h1, h2, h3⟩
    refine ⟨e, he, ?_⟩
    rw [if_neg (by rw [h1, h2]; exact h3), h1, h2]
theorem CC.ixn {N : Nat} {su : Nat → List Nat} {L : List (List Nat)} (h : CC N su L) {v : Int} (h0 : 0 ≤ v) (h1 : v < N) : ∃ i, i < L.length ∧ v.toNat ∈ L.getD i [] ∧ ixAt N L v = (i : Int) := by
  obtain ⟨i, a1, a2, a3⟩ := h.of (v := v.toNat) (by omega)
  exact ⟨i, a1, a2, a3⟩
theorem CC.cond_in {N : Nat} {ps : List (Int × Int)} {L : List (List Nat)} (h : CC N (suN ps) L) (hg : GOk (N : Int) ps) : inN (L.length : Int) (condP N L ps) = true := by
  unfold inN
  rw [List.all_eq_true]
  intro x hx
  obtain ⟨e, he, h1, h2, _⟩ := mem_condP.mp hx
  obtain ⟨⟨a1, a2⟩, a3, a4⟩ := hg.fit e he
  obtain ⟨i, b1, _, b3⟩ := h.ixn a1 a2
  obtain ⟨j, c1, _, c3⟩ := h.ixn a3 a4
  rw [Bool.and_eq_true]
  exact ⟨isNd_iff.2 ⟨by omega, by omega⟩, isNd_iff.2 ⟨by omega, by omega⟩⟩
theorem CC.cond_make {N : Nat} {ps : List (Int × Int)} {L : List (List Nat)} (h : CC N (suN ps) L) (hg : GOk (N : Int) ps) : makeE (L.length : Int) (condP N L ps) = 0 := by
  have := h.count
  have := hg.hi
  unfold makeE
  rw [if_neg (by omega), if_neg (by omega), if_neg (by rw [h.cond_in hg]; decide)]
/-- Edges lie in no block of a graph. -/
theorem pairs_off {W : World} {B : Nat} {u s : Value} {t : TypeId} {fz : Nat × Nat} (hu : ∀ z : Int, s ≠ .int .i64 z) (h : W.heap[B]? = some (.cells #[u, s] t fz)) {b off : Nat} {ps : List (Int × Int)} (hp : Pairs W (some ⟨b, off, none⟩) ps) (h0 : 0 < ps.length) : b ≠ B := by
  intro e
  subst e
  obtain ⟨b', off', e, hc⟩ := hp h0
  cases e
  have h2 := (hc 0 h0).2
  unfold World.cell? at h2
  rw [h] at h2
  cases off with
  | zero => simp at h2; exact hu _ h2
  | succ q => simp at h2
theorem Pairs.set2 {W : World} {B : Nat} {u s v v' : Value} {t : TypeId} {fz : Nat × Nat} (hu : ∀ z : Int, s ≠ .int .i64 z) (h : W.heap[B]? = some (.cells #[u, s] t fz)) {a : Option Addr} {ps : List (Int × Int)} (hp : Pairs W a ps) : Pairs ((W.setCell ⟨B, 0, none⟩ v).setCell ⟨B, 1, none⟩ v') a ps := fun h0 => by
  obtain ⟨b, off, e, hc⟩ := id hp h0
  have hne : b ≠ B := by subst e; exact pairs_off hu h hp h0
  have hk : ∀ o z, W.cell? ⟨b, o, none⟩ = some z → ((W.setCell ⟨B, 0, none⟩ v).setCell ⟨B, 1, none⟩ v').cell? ⟨b, o, none⟩ = some z := fun o z hz => by
    rw [World.cell?_setCell_other _ _ _ _ (by simp), World.cell?_setCell_other _ _ _ _ (by simp)]
    exact hz
  exact ⟨b, off, e, fun i hi => ⟨hk _ _ (hc i hi).1, hk _ _ (hc i hi).2⟩⟩
def CondEnd (w : World) (N : Int) (ps : List (Int × Int)) (k : Int) (e : Ending) (w' : World) : Prop :=
  ∃ L, CL N ps L ∧ Below w.heap.size w w' ∧ ((k ≠ 0 ∧ e = .returned (.tuple #[.agg #[.int .i64 0, .slice none 0 0], .int .i64 k])) ∨
    (k = 0 ∧ ∃ qs m l a' c', L.length = m ∧ qs.length = l ∧ Canon (condP N.toNat L ps) qs ∧ l ≤ ps.length ∧ Edg w' a' c' qs ∧ e = .returned (.tuple #[.agg #[.int .i64 (m : Int), .slice a' l c'], .int .i64 0])))
set_option maxRecDepth 100000 in
set_option maxHeartbeats 4000000 in
theorem cond_any (N : Int) (a : Option Addr) (n c : Nat) (ps : List (Int × Int)) (hl : ps.length = n) (hn : n ≤ maxLen) (w : World) (hE : Pairs w a ps) (k : Int) (hk : gchk N ps = k) : Calls Try.prog 19 #[.agg #[.int .i64 N, .slice a n c]] w (CondEnd w N ps k) := by
  obtain ⟨w1, hw1⟩ : ∃ w1, (w.alloc (Obj.cells #[Value.int .i64 N, Value.slice a n c] 24)).alloc (Obj.cells #[Value.int .i64 0, Value.slice none 0 0] 24) = w1 := ⟨_, rfl⟩
  have hs1 : w1.heap.size = w.heap.size + 2 := by rw [← hw1]; simp
  have g0 : w1.cell? ⟨w.heap.size, 0, none⟩ = some (.int .i64 N) := by rw [← hw1]; simp [go_sem]
  have g1 : w1.cell? ⟨w.heap.size, 1, none⟩ = some (.slice a n c) := by rw [← hw1]; simp [go_sem]
  have hq1 : QC w1 (w.heap.size + 1) (.int .i64 0) (.slice none 0 0) := by
    have := QC.new (w.alloc (Obj.cells #[Value.int .i64 N, Value.slice a n c] 24)) (.int .i64 0) (.slice none 0 0) 24
    rw [World.size_alloc, hw1] at this
    exact this
  have ho1 : w1.heap[w.heap.size + 1]? = some (.cells #[.int .i64 0, .slice none 0 0] 24 (0, 0)) := by
    rw [← hw1]
    have := World.alloc_heap_new (w.alloc (Obj.cells #[Value.int .i64 N, Value.slice a n c] 24)) (.cells #[.int .i64 0, .slice none 0 0] 24)
    rw [World.size_alloc] at this
    exact this
  have HB1 : Hid (Below w.heap.size w w1) := by show Below _ _ _; rw [← hw1]; exact ((Below.refl w.heap.size w).alloc (Nat.le_refl _) _).alloc (by simp) _
  have HE := Lib.hid (hE.below HB1.out (Nat.le_refl _))
  have Hl := Lib.hid hl
  have Hk := Lib.hid hk
  have Hw1 := Lib.hid hw1
  have Hq1 := Lib.hid hq1
  clear hl hk hE hw1 hq1
  go_enter Try.func19, Try.ntmps19
  go_wp2_with fail
  rw [Hw1.out]
  refine (comps_law N a n c ps Hl.out hn w1 HE.out k Hk.out).mono ?_
  rintro e w2 ⟨hb2, L, m, a1, c1, hm, rfl, hR, hC⟩
  have hs2 : w.heap.size + 2 ≤ w2.heap.size := by have := hb2.size; omega
  have k0 := (hb2.cell (p := ⟨w.heap.size, 0, none⟩) (by show w.heap.size < _; omega)).trans g0
  have k1 := (hb2.cell (p := ⟨w.heap.size, 1, none⟩) (by show w.heap.size < _; omega)).trans g1
  have hq2 := Hq1.out.below hb2 (by omega)
  have ho2 := (hb2.block (w.heap.size + 1) (by omega)).trans ho1
  have HB2 := Lib.hid (HB1.out.trans (hb2.mono (by omega)))
  have HE2 := Lib.hid (HE.out.below hb2 (Nat.le_refl _))
  have Hq2 := Lib.hid hq2
  clear Hq1 HE
  by_cases hk0 : k = 0
  rotate_left
  · have e0 : (k != 0) = true := by rw [bne_iff_ne]; exact hk0
    have b0 := hq2.c0
    have b1 := hq2.c1
    have b2 := hq2.f0
    have b3 := hq2.f1
    have hqf := hq2.set (.int .i64 0) (.slice none 0 0)
    have i0 := hqf.c0
    have i1 := hqf.c1
    have HC := Lib.hid hC
    clear hq2 hqf hb2 hR hC hm
    go_wp2
    refine bodyPost_ret (v := .tuple #[.agg #[.int .i64 0, .slice none 0 0], .int .i64 k]) (by simp [results, Try.results19, go_sem, i0, i1]) rfl ?_
    exact ⟨L, HC.out, below_set2 HB2.out (by omega) _ _, .inl ⟨hk0, rfl⟩⟩
  have e0 : (k != 0) = false := by rw [hk0]; rfl
  have hg := gchk_ok (show gchk N ps = 0 by rw [Hk.out]; exact hk0)
  obtain ⟨N, rfl⟩ : ∃ m : Nat, N = (m : Int) := ⟨N.toNat, by have := hg.lo; omega⟩
  have hN8 : N ≤ 8192 := by have := hg.hi; omega
  have hn2 : n ≤ 32768 := by have := hg.len; rw [Hl.out] at this; exact this
  have hcc := hC.good (by rw [Hk.out]; exact hk0)
  rw [Int.toNat_natCast] at hcc
  have hm8 : m ≤ 8192 := by have := hcc.count; omega
  have hml : (L.map ni).length = m := by rw [List.length_map]; exact hm
  have hix := indexes_any N (.slice a1 m c1) (L.map ni) w2 hR hN8 (by rw [hml]; exact hm8) (fun i hi => hcc.fits i (by rw [List.length_map] at hi; exact hi)) (fun i hi => by
    rw [List.length_map] at hi
    rw [map_ni_at, ni_len]
    have := nodupLe (hcc.nd hi) (hcc.lt i hi)
    omega)
  rw [List.length_map] at hix
  have Hix := Lib.hid hix
  have HC := Lib.hid hC
  have Hcc := Lib.hid hcc
  have Hg := Lib.hid hg
  have Hm := Lib.hid hm
  clear hb2 hR hC hm hcc hml hix hg hq2
  subst hk0
  go_wp2_with fail
  refine Hix.out.mono ?_
  rintro e w3 ⟨rfl, hrow, hb3⟩
  have hs3 : w2.heap.size < w3.heap.size := hrow.lt.2
  have j0 := (hb3.cell (p := ⟨w.heap.size, 0, none⟩) (by show w.heap.size < _; omega)).trans k0
  have j1 := (hb3.cell (p := ⟨w.heap.size, 1, none⟩) (by show w.heap.size < _; omega)).trans k1
  have ho3 := (hb3.block (w.heap.size + 1) (by omega)).trans ho2
  have Ho3 := Lib.hid ho3
  clear ho1 ho2 ho3
  have HB3 := Lib.hid (HB2.out.trans (hb3.mono (by omega)))
  have HE3 := Lib.hid (HE2.out.below hb3 (Nat.le_refl _))
  have Hq3 := Lib.hid (Hq2.out.below hb3 (by omega))
  have Hrow := Lib.hid hrow
  clear hb3 hrow HE2 Hq2 k0 k1 g0 g1 Hix
  go_wp2
  go_loopw [7, 28] (fun v i W => ∃ k : Nat, k ≤ n ∧ i = .int .i64 k ∧ Hid (OwnP W w3.heap.size v (condP N L (ps.take k))) ∧ Hid (Below w3.heap.size w3 W)) (fun _ i _ => n - (intOf i).toNat)
  case atStart => exact ⟨0, Nat.zero_le _, rfl, Lib.hid (OwnP.nil _ _), Lib.hid (Below.refl _ _)⟩
  case round =>
    obtain ⟨k, hk, rfl, Hown, Hbe⟩ := hrel
    have hsz := Hbe.out.size
    have hiN : (idxTo N (L.map ni) L.length).length = N := idxTo_len ..
    by_cases hlt : k < n
    · obtain ⟨b, off, rfl, hcell⟩ := (HE3.out.below Hbe.out (Nat.le_refl _)) (by rw [Hl.out]; omega)
      obtain ⟨hcx, hcy⟩ := hcell k (by rw [Hl.out]; exact hlt)
      obtain ⟨⟨x, y⟩, he⟩ : ∃ e, ps.getD k (0, 0) = e := ⟨_, rfl⟩
      have hk' : ps[k]'(by rw [Hl.out]; exact hlt) = (x, y) := by simpa [List.getD_eq_getElem?_getD, Hl.out, hlt] using he
      have hnd := Hg.out.fit (x, y) (by rw [← hk']; exact List.getElem_mem _)
      rw [he] at hcx hcy
      obtain ⟨x, rfl⟩ : ∃ m : Nat, x = (m : Int) := ⟨x.toNat, by have := hnd.1; simp at this; omega⟩
      obtain ⟨y, rfl⟩ : ∃ m : Nat, y = (m : Int) := ⟨y.toNat, by have := hnd.2; simp at this; omega⟩
      have hxN : x < N := by have := hnd.1.2; simp at this; omega
      have hyN : y < N := by have := hnd.2.2; simp at this; omega
      have hD : condP N L (ps.take (k + 1)) = condP N L (ps.take k) ++ (if ixAt N L (x : Int) = ixAt N L (y : Int) then [] else [(ixAt N L (x : Int), ixAt N L (y : Int))]) := by
        rw [List.take_succ_eq_append_getElem (by rw [Hl.out]; exact hlt), hk', condP_snoc]
      have hdl := condP_len N L (ps.take k)
      have hdl2 : (ps.take k).length ≤ n := by rw [List.length_take, Hl.out]; omega
      have cF := (Hbe.out.cell (p := ⟨w2.heap.size, x, none⟩) hs3).trans (Hrow.out.cell (i := x) (by rw [hiN]; exact hxN))
      have cT := (Hbe.out.cell (p := ⟨w2.heap.size, y, none⟩) hs3).trans (Hrow.out.cell (i := y) (by rw [hiN]; exact hyN))
      obtain ⟨f, hf⟩ : ∃ f, (idxTo N (L.map ni) L.length).getD x 0 = f := ⟨_, rfl⟩
      obtain ⟨t, ht⟩ : ∃ t, (idxTo N (L.map ni) L.length).getD y 0 = t := ⟨_, rfl⟩
      have hf2 : ixAt N L (x : Int) = f := by unfold ixAt; rw [Int.toNat_natCast]; exact hf
      have ht2 : ixAt N L (y : Int) = t := by unfold ixAt; rw [Int.toNat_natCast]; exact ht
      rw [hf2, ht2] at hD
      rw [hf] at cF
      rw [ht] at cT
      obtain ⟨w5, hw5⟩ : ∃ w5, wr.alloc (.cells #[.int .i64 (x : Int), .int .i64 (y : Int)] 44) = w5 := ⟨_, rfl⟩
      have hs5 : wr.heap.size < w5.heap.size := by rw [← hw5]; simp
      have e0' : w5.cell? ⟨wr.heap.size, 0, none⟩ = some (.int .i64 (x : Int)) := by rw [← hw5]; simp [go_sem]
      have e1' : w5.cell? ⟨wr.heap.size, 1, none⟩ = some (.int .i64 (y : Int)) := by rw [← hw5]; simp [go_sem]
      have hb5 : Below wr.heap.size wr w5 := by rw [← hw5]; exact (Below.refl _ _).alloc (Nat.le_refl _) _
      have c5F := (hb5.cell (World.block_lt_of_cell? _ _ cF)).trans cF
      have c5T := (hb5.cell (World.block_lt_of_cell? _ _ cT)).trans cT
      have Hown5 : Hid (OwnP w5 w3.heap.size u7 (condP N L (ps.take k))) := by show OwnP _ _ _ _; rw [← hw5]; exact Hown.out.alloc _
      have Hbe5 := Lib.hid (Hbe.out.trans (hb5.mono hsz))
      have HD := Lib.hid hD
      have Hw5 := Lib.hid hw5
      clear hcell he hk' hnd hD hf ht hf2 ht2 hw5 Hown hb5 cF cT hiN
      by_cases hft : f = t
      · subst hft
        rw [if_pos rfl, List.append_nil] at HD
        have hne : (f != f) = false := by simp
        go_wp2
        rw [Hw5.out]
        go_quiet (fail)
        have Hown7 := Lib.hid (Hown5.out.drewN nq)
        have Hbe7 := Lib.hid (Hbe5.out.trans (Drawn.below (w' := w5.drewN nq) ⟨nq, rfl⟩ _))
        go_wp2
        go_roundw
        case rel => exact ⟨k + 1, hlt, by go_num, by rw [HD.out]; exact Hown7, Hbe7⟩
        case measure => simp [intOf]; omega
      · rw [if_neg hft] at HD
        have hne : (f != t) = true := by simpa using hft
        go_wp2
        rw [Hw5.out]
        go_quiet (fail)
        have hown7 := Hown5.out.drewN nq
        have hbe7 := Hbe5.out.trans (Drawn.below (w' := w5.drewN nq) ⟨nq, rfl⟩ _)
        generalize w5.drewN nq = W7 at *
        have hs7 := hbe7.size
        have Hown7 := Lib.hid hown7
        have Hbe7 := Lib.hid hbe7
        clear hown7 hbe7 Hown5 Hbe5
        go_wp2_with (at_builtin; refine wpList_append_pair rfl _ _ rfl w3.heap.size _ _ rfl (Hown7.out.alloc _) _ (f, t) rfl (by simp [go_sem]) (by simp [go_sem]) (by omega) (by simp; omega) ?_; intro v' w8 hown8 hg8; have Hown8 := Lib.hid hown8; have Hbe8 := Lib.hid (Hown7.out.grown hg8 Hbe7.out hs7); clear hown8 hg8)
        go_roundw
        case rel => exact ⟨k + 1, hlt, by go_num, by rw [HD.out]; exact Hown8, Hbe8⟩
        case measure => simp [intOf]; omega
    · obtain rfl : k = n := by omega
      have hown : OwnP wr w3.heap.size u7 (condP N L ps) := by
        have := Hown.out
        rw [← Hl.out, List.take_length] at this
        exact this
      have hdl := condP_len N L ps
      rw [Hl.out] at hdl
      obtain ⟨ab, cb, rfl, hpb⟩ := hown.shape
      have hEd : Edg wr ab cb (condP N L ps) := by
        refine ⟨hpb, ?_, ?_, ?_⟩
        · rcases hown.2 with ⟨h0, h00⟩ | ⟨g', cap', cur, hv, _, _, h3, h4, _⟩
          · omega
          · cases hv; exact h3
        · rcases hown.2 with ⟨h0, _⟩ | ⟨g', cap', cur, hv, _, _, h3, h4, _⟩
          · rw [Value.slice.injEq] at h0; unfold maxLen; omega
          · cases hv; exact h4
        · intro e
          rcases hown.2 with ⟨h0, _⟩ | ⟨g', cap', cur, hv, _, _, h3, h4, _⟩
          · rw [Value.slice.injEq] at h0; exact h0.2.2
          · cases hv; cases e
      have hmk := make_any (m : Int) ab cb (condP N L ps) wr (by omega) hEd
      have hme : makeE (m : Int) (condP N L ps) = 0 := by rw [← Hm.out]; exact Hcc.out.cond_make Hg.out
      rw [hme] at hmk
      obtain ⟨q, hq⟩ : ∃ q, (condP N L ps).length = q := ⟨_, rfl⟩
      rw [hq] at hmk hdl
      simp only [hq]
      have Hmk := Lib.hid hmk
      clear hown hpb hEd hmk hme hq Hown
      go_wp2_with fail
      refine Hmk.out.mono ?_
      rintro e w4 ⟨hb4, ⟨h, _⟩ | ⟨_, qs, a', c', hcan, hql, hE4, rfl⟩⟩
      · exact absurd rfl h
      obtain ⟨l, hle⟩ : ∃ l, qs.length = l := ⟨_, rfl⟩
      rw [hle] at hql ⊢
      have HB4 := Lib.hid (HB3.out.trans ((Hbe.out.trans (hb4.mono hsz)).mono (by omega)))
      have hq4 := (Hq3.out.below Hbe.out (by omega)).below hb4 (by omega)
      have b0 := hq4.c0
      have b1 := hq4.c1
      have b2 := hq4.f0
      have b3 := hq4.f1
      have hqf := hq4.set (.int .i64 (m : Int)) (.slice a' l c')
      have i0 := hqf.c0
      have i1 := hqf.c1
      have hEf : Edg ((w4.setCell ⟨w.heap.size + 1, 0, none⟩ (.int .i64 (m : Int))).setCell ⟨w.heap.size + 1, 1, none⟩ (.slice a' l c')) a' c' qs := by
        have ho4 := (hb4.block (w.heap.size + 1) (by omega)).trans ((Hbe.out.block (w.heap.size + 1) (by omega)).trans Ho3.out)
        exact ⟨hE4.pairs.set2 (by intro z e; cases e) ho4, hE4.cap, hE4.max, hE4.nil⟩
      have HEf := Lib.hid hEf
      have Hcan := Lib.hid hcan
      have Hle := Lib.hid hle
      clear hb4 hcan hE4 hq4 hqf hEf hle
      go_wp2
      refine bodyPost_ret (v := .tuple #[.agg #[.int .i64 (m : Int), .slice a' l c'], .int .i64 0]) (by simp [results, Try.results19, go_sem, i0, i1]) rfl ?_
      exact ⟨L, HC.out, below_set2 HB4.out (by omega) _ _, .inr ⟨rfl, qs, m, l, a', c', Hm.out, Hle.out, by rw [Int.toNat_natCast]; exact Hcan.out, by rw [Hl.out]; omega, HEf.out, rfl⟩⟩
end Go.Proofs.Ytopbbihbpalnlaa
