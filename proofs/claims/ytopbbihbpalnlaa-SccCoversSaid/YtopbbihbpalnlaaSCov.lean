/-
  SccCovers: the walk of the law.
-/
import Derived.Test.YtopbbihbpalnlaaSCyc
import Derived.Test.YtopbbihbpalnlaaGRCheck
namespace Go.Proofs.Ytopbbihbpalnlaa
open Go.RowKit Go.Shelf Go.WideShapes
set_option linter.unusedVariables false

/-- The nodes of the first i lists, and of the first k places of the next one. -/
def preL (L : List (List Nat)) (i k : Nat) : List Nat := (L.take i).flatten ++ (L.getD i []).take k
theorem preL_zero (L : List (List Nat)) : preL L 0 0 = [] := by simp [preL]
theorem preL_succ {L : List (List Nat)} {i k : Nat} (hk : k < (L.getD i []).length) : preL L i (k + 1) = preL L i k ++ [(L.getD i []).getD k 0] := by
  unfold preL
  rw [List.take_succ_eq_append_getElem hk, ← List.append_assoc, List.getD_eq_getElem?_getD (l := L.getD i []), List.getElem?_eq_getElem hk]
  rfl
theorem preL_next {L : List (List Nat)} {i : Nat} (hi : i < L.length) : preL L (i + 1) 0 = preL L i (L.getD i []).length := by
  unfold preL
  rw [List.take_zero, List.append_nil, List.take_length, List.take_succ_eq_append_getElem hi, List.flatten_append]
  simp [List.getD_eq_getElem?_getD, hi]
theorem preL_end (L : List (List Nat)) : preL L L.length 0 = L.flatten := by simp [preL]
section
variable {N : Nat} {su : Nat → List Nat} {L : List (List Nat)}
theorem CC.flat (h : CC N su L) : L.flatten.Nodup := by
  unfold List.Nodup
  rw [List.pairwise_flatten]
  refine ⟨fun l hl => ?_, ?_⟩
  · obtain ⟨i, hi, rfl⟩ := mem_getD hl
    exact (h.asc i hi).imp fun h => by omega
  · rw [List.pairwise_iff_getElem]
    intro i j hi hj hij x hx y hy e
    subst e
    have := h.dis i j hi hj x (by rw [List.getD_eq_getElem?_getD, List.getElem?_eq_getElem hi]; exact hx) (by rw [List.getD_eq_getElem?_getD, List.getElem?_eq_getElem hj]; exact hy)
    omega
theorem CC.flat_mem (h : CC N su L) (x : Nat) : x ∈ L.flatten ↔ x < N := by
  rw [List.mem_flatten]
  constructor
  · rintro ⟨c, hc, hx⟩
    obtain ⟨i, hi, rfl⟩ := mem_getD hc
    exact h.lt i hi x hx
  · intro hx
    obtain ⟨i, hi, hm⟩ := h.all x hx
    exact ⟨_, getD_mem hi, hm⟩
theorem CC.flat_len (h : CC N su L) : L.flatten.length = N := by
  have := (List.perm_ext_iff_of_nodup h.flat (List.nodup_range (n := N))).mpr (fun x => by rw [h.flat_mem x, List.mem_range])
  simpa using this.length_eq
theorem preL_sub (L : List (List Nat)) {i : Nat} (hi : i ≤ L.length) (k : Nat) : (preL L i k).Sublist L.flatten := by
  have h1 : L.flatten = (L.take i).flatten ++ (L.drop i).flatten := by rw [← List.flatten_append, List.take_append_drop]
  rw [h1]
  unfold preL
  refine List.Sublist.append (List.Sublist.refl _) ?_
  by_cases e : i < L.length
  · rw [List.drop_eq_getElem_cons e, List.flatten_cons]
    refine List.Sublist.trans (List.take_sublist _ _) ?_
    rw [List.getD_eq_getElem?_getD, List.getElem?_eq_getElem e]
    exact List.sublist_append_left _ _
  · have : L.getD i [] = [] := by simp [List.getD_eq_getElem?_getD, Nat.le_of_not_lt e]
    rw [this]; simp
theorem CC.pre_len (h : CC N su L) {i : Nat} (hi : i ≤ L.length) (k : Nat) : (preL L i k).length ≤ N := by
  have := (preL_sub L hi k).length_le
  rw [h.flat_len] at this
  exact this
theorem CC.pre_new (h : CC N su L) {i k : Nat} (hi : i < L.length) (hk : k < (L.getD i []).length) : (L.getD i []).getD k 0 ∉ preL L i k := by
  have h1 : (preL L i (k + 1)).Nodup := List.Pairwise.sublist (preL_sub L (Nat.le_of_lt hi) (k + 1)) h.flat
  rw [preL_succ hk] at h1
  intro hm
  exact (List.nodup_append.mp h1).2.2 _ hm _ (by simp) rfl
end
/-- The nodes of l are marked. -/
structure Seen (N : Nat) (bs : List Bool) (l : List Nat) : Prop where
  len : bs.length = N
  at_ : ∀ x, x < N → (bs.getD x false = true ↔ x ∈ l)
theorem Seen.start (N : Nat) : Seen N (List.replicate N false) [] := ⟨by simp, fun x hx => by simp [List.getD_eq_getElem?_getD, hx]⟩
theorem Seen.add {N : Nat} {bs : List Bool} {l : List Nat} (h : Seen N bs l) {v : Nat} (hv : v < N) : Seen N (bs.set v true) (l ++ [v]) := by
  refine ⟨by rw [List.length_set]; exact h.len, fun x hx => ?_⟩
  rw [List.mem_append, List.mem_singleton]
  by_cases e : x = v
  · subst e
    have := h.len
    simp [List.getD_eq_getElem?_getD, show x < bs.length by omega]
  · have : (bs.set v true).getD x false = bs.getD x false := by simp [List.getD_eq_getElem?_getD, Ne.symm e]
    rw [this, h.at_ x hx]
    simp [e]
theorem bool_info : (Try.prog.info? 4).map (fun i => (i.zero, i.size, i.bytes)) = some (some (.bool false), 1, 1) := by kernel_rfl
set_option maxHeartbeats 4000000 in
set_option maxRecDepth 100000 in
theorem cov_row (N : Int) (a : Option Addr) (c : Nat) (ps : List (Int × Int)) (w : World) (hE : Edg w a c ps) :
    Calls Try.prog 7 #[.agg #[.int .i64 N, .slice a ps.length c]] w fun e w' => e = .returned (.bool true) ∧ Below w.heap.size w w' := by
  have hcap : ps.length ≤ maxLen := by have := hE.cap; have := hE.max; omega
  obtain ⟨n, hl⟩ : ∃ n, ps.length = n := ⟨_, rfl⟩
  have hcap' := hcap
  unfold maxLen at hcap'
  rw [hl] at hcap' hcap ⊢
  have Hb0 := Lib.hid ((Below.refl w.heap.size w).alloc (Nat.le_refl _) (Obj.cells #[Value.int .i64 N, Value.slice a n c] 24))
  by_cases hbig : 400 < n
  · clear hE hl
    go_enter Try.func7, Try.ntmps7
    go_wp2_with (go_at_call 10; refine (awake_any _).mono ?_; rintro e w' ⟨rfl, hb⟩)
    go_ret
    exact ⟨rfl, Hb0.out.trans (hb.mono (by simp))⟩
  by_cases hbig2 : 400 < N
  · clear hE hl
    go_enter Try.func7, Try.ntmps7
    go_wp2_with (go_at_call 10; refine (awake_any _).mono ?_; rintro e w' ⟨rfl, hb⟩)
    go_ret
    exact ⟨rfl, Hb0.out.trans (hb.mono (by simp))⟩
  obtain ⟨k, hk⟩ : ∃ k, gchk N ps = k := ⟨_, rfl⟩
  obtain ⟨w0, hw0⟩ : ∃ w0, w.alloc (Obj.cells #[Value.int .i64 N, Value.slice a n c] 24) = w0 := ⟨_, rfl⟩
  have hz0 : w.heap.size < w0.heap.size := by rw [← hw0]; simp
  have q0 : w0.cell? ⟨w.heap.size, 0, none⟩ = some (.int .i64 N) := by rw [← hw0]; simp [go_sem]
  have q1 : w0.cell? ⟨w.heap.size, 1, none⟩ = some (.slice a n c) := by rw [← hw0]; simp [go_sem]
  have HB0 : Hid (Below w.heap.size w w0) := by show Below _ _ _; rw [← hw0]; exact Hb0.out
  have hE0 := hE.pairs.below HB0.out (Nat.le_refl _)
  have hrc := rcheck_any N a c ps w0 (by rw [hl]; exact hcap) hE0
  rw [hl, hk] at hrc
  have Hrc := Lib.hid hrc
  have HE := Lib.hid hE0
  have Hw0 := Lib.hid hw0
  have Hl := Lib.hid hl
  have Hk := Lib.hid hk
  have d1 : decide ((400 : Int) < (n : Int)) = false := by simp; omega
  have d2 : decide ((400 : Int) < N) = false := by simp; omega
  clear hE hl hk hw0 Hb0 hE0 hrc
  by_cases hk0 : k = 0
  rotate_left
  · have e0 : (k != 0) = true := by simpa using hk0
    go_enter Try.func7, Try.ntmps7
    go_wp2_with fail
    rw [Hw0.out]
    refine Hrc.out.mono ?_
    rintro e w1 ⟨rfl, hb1⟩
    have HB1 := Lib.hid (HB0.out.trans (hb1.mono (Nat.le_of_lt hz0)))
    clear hb1
    go_wp2_with fail
    refine (awake_any w1).mono ?_
    rintro e w2 ⟨rfl, hb2⟩
    have HB2 := Lib.hid (HB1.out.trans (hb2.mono HB1.out.size))
    clear hb2
    go_wp2
    go_ret
    exact ⟨rfl, HB2.out⟩
  subst hk0
  have hg := gchk_ok Hk.out
  obtain ⟨N, rfl⟩ : ∃ m : Nat, N = (m : Int) := ⟨N.toNat, by have := hg.lo; omega⟩
  clear hg
  obtain ⟨i0, hi, hz0', hz1', hz2'⟩ := info_parts bool_info
  go_enter Try.func7, Try.ntmps7
  go_wp2_with fail
  rw [Hw0.out]
  refine Hrc.out.mono ?_
  rintro e w1 ⟨rfl, hb1⟩
  have g0 := (hb1.cell (p := ⟨w.heap.size, 0, none⟩) hz0).trans q0
  have g1 := (hb1.cell (p := ⟨w.heap.size, 1, none⟩) hz0).trans q1
  have hz1 : w.heap.size < w1.heap.size := by have := hb1.size; omega
  have HB1 := Lib.hid (HB0.out.trans (hb1.mono (Nat.le_of_lt hz0)))
  have HE1 := Lib.hid (HE.out.below hb1 (Nat.le_refl _))
  clear hb1
  go_wp2_with fail
  refine (comps_law (N : Int) a n c ps Hl.out hcap w1 HE1.out 0 Hk.out).mono ?_
  rintro e w2 ⟨hb2, L, m, a1, c1, hm, rfl, hR, hC⟩
  have k0 := (hb2.cell (p := ⟨w.heap.size, 0, none⟩) hz1).trans g0
  have hz2 : w.heap.size < w2.heap.size := by have := hb2.size; omega
  have HB2 := Lib.hid (HB1.out.trans (hb2.mono (Nat.le_of_lt hz1)))
  have HR := Lib.hid hR
  have hC2 := hC.good Hk.out
  rw [Int.toNat_natCast] at hC2
  have HC := Lib.hid hC2
  have Hm := Lib.hid hm
  clear hb2 hR hC hC2 hm
  go_wp2_with (at_make; refine wpList_make_full _ rfl _ _ 45 rfl w2.heap.size 4 i0 (.bool false) 1 Try.underlying45 hi hz0' hz1' _ _ _ _ N rfl rfl rfl rfl ?c1 ?c2 ?c3 ?_)
  case c1 => rw [hz2']; omega
  case c2 => unfold maxLen; omega
  case c3 => exact Nat.le_refl _
  intro w3 hown hg3
  have hB : RowB w3 w2.heap.size w2.heap.size (List.replicate N false) := by
    unfold RowB
    rw [List.length_replicate, show (List.replicate N false).map Value.bool = (madeCells #[Value.bool false] N).toList by rw [toList_madeCells_one]; simp]
    exact hown
  have hb3 : Below w2.heap.size w2 w3 := (Below.refl _ _).grown hg3 (Nat.le_refl _) (fun k hk => by cases hk)
  have HRB := Lib.hid hB
  have Hb3 := Lib.hid hb3
  have hse : Seen N (List.replicate N false) (preL L 0 0) := by rw [preL_zero]; exact Seen.start N
  have Hse := Lib.hid hse
  have e0 : (0 : Int) = (((preL L 0 0).length : Nat) : Int) := by rw [preL_zero]; rfl
  have He0 := Lib.hid e0
  clear hown hg3 hB hb3 hse e0
  go_wp2
  go_loopw [6, 7] (fun cn i W => ∃ (j : Nat) (bs : List Bool), j ≤ m ∧ i = .int .i64 j ∧ cn = .int .i64 (((preL L j 0).length : Nat) : Int) ∧ Hid (RowB W w2.heap.size w2.heap.size bs) ∧ Hid (Seen N bs (preL L j 0)) ∧ Hid (Below w2.heap.size w2 W)) (fun _ i _ => m - (intOf i).toNat)
  case atStart => exact ⟨0, _, Nat.zero_le _, rfl, by rw [← He0.out], HRB, Hse, Hb3⟩
  case round =>
    clear HRB Hse Hb3
    obtain ⟨j, bs, hj, rfl, rfl, HRB, Hse, Hbe⟩ := hrel
    have hmN : m ≤ N := by
      have h1 := HC.out.flat_len
      have h2 : ((List.range L.length).map (hdL L)).Nodup := by
        unfold List.Nodup
        rw [List.pairwise_map]
        refine List.Pairwise.imp_of_mem ?_ (List.nodup_range (n := L.length))
        intro a b ha hb hne e
        rw [List.mem_range] at ha hb
        have hm2 : ∀ i, i < L.length → hdL L i ∈ L.getD i [] := fun i hi => by
          have := HC.out.ne i hi
          unfold hdL
          cases hc : L.getD i [] with
          | nil => exact absurd hc this
          | cons x r => simp
        exact hne (HC.out.dis a b ha hb _ (hm2 a ha) (e ▸ hm2 b hb))
      have h3 := nodupLe (N := N) h2 (fun x hx => by
        obtain ⟨i, hi, e⟩ := List.mem_map.mp hx
        rw [List.mem_range] at hi
        have hm2 : hdL L i ∈ L.getD i [] := by
          have := HC.out.ne i hi
          unfold hdL
          cases hc : L.getD i [] with
          | nil => exact absurd hc this
          | cons x r => simp
        exact e ▸ HC.out.lt i hi _ hm2)
      have := Hm.out
      simp at h3
      omega
    by_cases hlt : j < m
    · have hjL : j < L.length := by rw [Hm.out]; exact hlt
      obtain ⟨a2, c2, e2, hz⟩ := HR.out
      injection e2 with e3 _ _
      obtain ⟨G, off, e4, hx⟩ := hz (by rw [List.length_map]; omega)
      rw [e4] at e3
      subst e3
      obtain ⟨ai, ci, q1, q2⟩ := hx j (by rw [List.length_map]; exact hjL)
      rw [map_ni_at] at q1 q2
      rw [ni_len] at q1
      obtain ⟨q, hq⟩ : ∃ q, (L.getD j []).length = q := ⟨_, rfl⟩
      have hqN : q ≤ N := by
        rw [← hq]
        exact nodupLe ((HC.out.asc j hjL).imp fun h => by omega) (HC.out.lt j hjL)
      rw [hq] at q1
      have Hq := Lib.hid hq
      have Hq2 := Lib.hid q2
      clear e4 hz hx q2 hq
      go_wp2
      go_loopw [6, 8] (fun cn i W => ∃ (k : Nat) (bs : List Bool), k ≤ q ∧ i = .int .i64 k ∧ cn = .int .i64 (((preL L j k).length : Nat) : Int) ∧ Hid (RowB W w2.heap.size w2.heap.size bs) ∧ Hid (Seen N bs (preL L j k)) ∧ Hid (Below w2.heap.size w2 W)) (fun _ i _ => q - (intOf i).toNat)
      case atStart => exact ⟨0, _, Nat.zero_le _, rfl, rfl, HRB, Hse, Hbe⟩
      case round =>
        clear HRB Hse Hbe
        obtain ⟨k, bs, hk, rfl, rfl, HRB, Hse, Hbe⟩ := hrel
        have r1 := (Hbe.out.cell (p := ⟨G, off + j, none⟩) (World.block_lt_of_cell? _ _ q1)).trans q1
        have k1 := (Hbe.out.cell (p := ⟨w.heap.size, 0, none⟩) hz2).trans k0
        have hpl := HC.out.pre_len (Nat.le_of_lt hjL) k
        by_cases hkq : k < q
        · have hkl : k < (L.getD j []).length := by rw [Hq.out]; exact hkq
          obtain ⟨b2, o2, rfl, hy⟩ := (Hq2.out.below Hbe.out (Nat.le_refl _)) (by rw [ni_len]; omega)
          have r2 := hy k (by rw [ni_len]; exact hkl)
          have r3 := fun h : 0 < k => hy (k - 1) (by rw [ni_len]; omega)
          rw [ni_at] at r2
          simp only [ni_at] at r3
          have hvm : (L.getD j []).getD k 0 ∈ L.getD j [] := by rw [List.getD_eq_getElem?_getD (l := L.getD j []), List.getElem?_eq_getElem hkl]; exact List.getElem_mem _
          have hvN := HC.out.lt j hjL _ hvm
          have hnew := HC.out.pre_new hjL hkl
          have hps := preL_succ hkl
          have hlast : 0 < k → (L.getD j []).getD (k - 1) 0 < (L.getD j []).getD k 0 := fun h => by
            have := HC.out.asc j hjL
            rw [List.pairwise_iff_getElem] at this
            have h3 := this (k - 1) k (by omega) hkl (by omega)
            rw [List.getD_eq_getElem?_getD (l := L.getD j []), List.getD_eq_getElem?_getD (l := L.getD j []), List.getElem?_eq_getElem hkl, List.getElem?_eq_getElem (show k - 1 < (L.getD j []).length by omega)]
            exact h3
          obtain ⟨v, hv⟩ : ∃ v, (L.getD j []).getD k 0 = v := ⟨_, rfl⟩
          obtain ⟨v', hv'⟩ : ∃ v, (L.getD j []).getD (k - 1) 0 = v := ⟨_, rfl⟩
          rw [hv] at r2 hvN hnew hps hlast
          rw [hv'] at r3 hlast
          have hbl := Hse.out.len
          have c5 := HRB.out.cell (i := v) (by omega)
          have f5 := HRB.out.free v
          have hbv : bs.getD v false = false := by
            cases hb : bs.getD v false with
            | false => rfl
            | true => exact absurd ((Hse.out.at_ v hvN).mp hb) hnew
          rw [hbv] at c5
          have Hrb2 := Lib.hid (HRB.out.set v true)
          have Hse2 := Lib.hid (Hse.out.add hvN)
          rw [← hps] at Hse2
          have Hbe2 : Hid (Below w2.heap.size w2 (wr.setCell ⟨w2.heap.size, v, none⟩ (.bool true))) := Hbe.out.setCell (p := ⟨w2.heap.size, v, none⟩) (Nat.le_refl _) _
          have hln : (preL L j (k + 1)).length = (preL L j k).length + 1 := by rw [hps]; simp
          have Hln := Lib.hid hln
          obtain ⟨z, hz⟩ : ∃ z, (preL L j k).length = z := ⟨_, rfl⟩
          rw [hz] at Hln hpl
          have t1 : decide ((v : Int) < 0) = false := by rw [decide_eq_false_iff_not]; omega
          have t2 : decide ((N : Int) ≤ (v : Int)) = false := by rw [decide_eq_false_iff_not]; omega
          have t4 : decide (N ≤ v) = false := by rw [decide_eq_false_iff_not]; omega
          simp only [hz]
          clear hy hvm hnew hps hv hv' hbv hln hz Hse HRB hbl
          rcases Nat.eq_zero_or_pos k with hk0 | hk0
          · have tk : ¬ (0 : Int) < (k : Int) := by omega
            have tk2 : ¬ 0 < k := by omega
            clear r3 hlast hk0
            go_wp2
            go_roundw
            case rel => exact ⟨k + 1, _, hkq, by go_num, by rw [Hln.out]; go_num, Hrb2, Hse2, Hbe2⟩
            case measure => simp [intOf]; omega
          · have r4 := r3 hk0
            have hl4 := hlast hk0
            have tk : (0 : Int) < (k : Int) := by omega
            have t3 : decide ((v : Int) ≤ (v' : Int)) = false := by rw [decide_eq_false_iff_not]; omega
            have t5 : decide (v ≤ v') = false := by rw [decide_eq_false_iff_not]; omega
            clear r3 hlast
            go_wp2
            go_roundw
            case rel => exact ⟨k + 1, _, hkq, by go_num, by rw [Hln.out]; go_num, Hrb2, Hse2, Hbe2⟩
            case measure => simp [intOf]; omega
        · obtain rfl : k = q := by omega
          have hnx := preL_next hjL
          rw [Hq.out] at hnx
          have Hnx := Lib.hid hnx
          clear hnx
          go_wp2
          go_roundw
          case rel => exact ⟨j + 1, bs, hlt, by go_num, by rw [Hnx.out], HRB, by rw [Hnx.out]; exact Hse, Hbe⟩
          case measure => simp [intOf]; omega
    · obtain rfl : j = m := by omega
      have hfin : (preL L j 0).length = N := by rw [← Hm.out, preL_end]; exact HC.out.flat_len
      have k1 := (Hbe.out.cell (p := ⟨w.heap.size, 0, none⟩) hz2).trans k0
      rw [hfin]
      clear hfin
      go_wp2_with fail
      refine (awake_any wr).mono ?_
      rintro e w4 ⟨rfl, hb4⟩
      have HB4 := Lib.hid (HB2.out.trans ((Hbe.out.trans (hb4.mono Hbe.out.size)).mono (Nat.le_of_lt hz2)))
      clear hb4
      go_wp2
      go_ret
      exact ⟨rfl, HB4.out⟩
end Go.Proofs.Ytopbbihbpalnlaa
