/-
  GraphShortest: the walk of the law, for graphs and paths that are within its bounds.
-/
import Derived.Test.YthgnbpiemkcdhaaGShortM2
import Derived.Test.YthgnbpiemkcdhaaGRSucc
import Derived.Test.YthgnbpiemkcdhaaGRevs
namespace Go.Proofs.Ythgnbpiemkcdhaa
open Go.RowKit Go.Shelf Go.WideShapes
set_option linter.unusedVariables false

/-- The first k numbers are nodes, and edges lead from each to the next one. -/
def PreP (N : Int) (ps : List (Int × Int)) (zs : List Int) (k : Nat) : Prop := ∀ j, j < k → (0 ≤ zs.getD j 0 ∧ zs.getD j 0 < N) ∧ (0 < j → (zs.getD (j - 1) 0, zs.getD j 0) ∈ ps)
theorem PreP.next {N : Int} {ps : List (Int × Int)} {zs : List Int} {k : Nat} (h : PreP N ps zs k) (h0 : 0 ≤ zs.getD k 0) (h1 : zs.getD k 0 < N) (he : 0 < k → (zs.getD (k - 1) 0, zs.getD k 0) ∈ ps) : PreP N ps zs (k + 1) := fun j hj => by
  by_cases e : j = k
  · subst e; exact ⟨⟨h0, h1⟩, he⟩
  · exact h j (by omega)
theorem rch_of_path {ps : List (Int × Int)} {zs : List Int} : ∀ k, (∀ j, j < k → (zs.getD j 0, zs.getD (j + 1) 0) ∈ ps) → Rch ps (zs.getD 0 0) (zs.getD k 0)
  | 0, _ => .refl
  | k + 1, h => .step (rch_of_path k fun j hj => h j (by omega)) (h k (Nat.lt_succ_self k))
theorem contains_succL {ps : List (Int × Int)} {v x : Int} (h : (v, x) ∈ ps) : (succL ps v).contains x = true := List.contains_iff_mem.2 (mem_succL.2 h)

theorem rsucc_at (N : Int) (a : Option Addr) (n c : Nat) (ps : List (Int × Int)) (v : Int) (zs : List Int) (m : Nat) (hz : succL ps v = zs) (hm : zs.length = m) (w : World) (hl : ps.length = n) (hn : n ≤ 100000) (hE : Pairs w a ps) (hv : nodeB N ps v = true) :
    Calls Try.prog 15 #[.agg #[.int .i64 N, .slice a n c], .int .i64 v] w fun e w' => ∃ b k, e = .returned (.slice b m k) ∧ Ints w' b zs ∧ m ≤ maxLen ∧ Below w.heap.size w w' := by
  subst hl
  refine (rsucc_any N a c ps v w hn hE).mono ?_
  rintro e w' ⟨r, rfl, ho, hb⟩
  rw [if_pos hv, hz] at ho
  have hle := own_le ho
  obtain ⟨b, k, rfl, hi⟩ := ho.shape
  exact ⟨b, k, by rw [hm], hi, by rw [← hm]; exact hle, hb⟩
theorem path_at (M : Nat) (a : Option Addr) (n c : Nat) (ps : List (Int × Int)) (fr t : Nat) (P : List Int) (q : Nat) (hP : pathL (M : Int) ps (fr : Int) (t : Int) = P) (hq : P.length = q) (hfo : 0 ≤ (foundP (M : Int) ps (fr : Int) (t : Int)).1.getD (t : Int).toNat 0) (w : World) (hl : ps.length = n) (hE : Edg w a c ps) (hok : gchk (M : Int) ps = 0) (hf : fr < M) (ht : t < M) :
    Calls Try.prog 26 #[.agg #[.int .i64 M, .slice a n c], .int .i64 fr, .int .i64 t] w fun e w' => ∃ b k, e = .returned (.tuple #[.slice b q k, .bool true]) ∧ Ints w' b P ∧ q ≤ maxLen ∧ Below w.heap.size w w' := by
  subst hl
  refine (path_good M a c ps fr t w hE hok hf ht).mono ?_
  intro e w' h
  unfold PathEnd at h
  rw [if_pos hfo] at h
  obtain ⟨hb, r, rfl, ho⟩ := h
  rw [hP] at ho
  have hle := own_le ho
  obtain ⟨b, k, rfl, hi⟩ := ho.shape
  exact ⟨b, k, by rw [hq], hi, by rw [← hq]; exact hle, hb⟩

theorem keepS {W X X' : World} {p q r s : Addr} {B : Nat} {u0 u1 t0 t1 : Value} (H : X.cell? p = some u0 ∧ X.cell? q = some u1 ∧ X.cell? r = some t0 ∧ X.cell? s = some t1 ∧ Below B W X) (hB : W.heap.size = B) (hb : Below X.heap.size X X') :
    X'.cell? p = some u0 ∧ X'.cell? q = some u1 ∧ X'.cell? r = some t0 ∧ X'.cell? s = some t1 ∧ Below B W X' := by
  have hs := H.2.2.2.2.size
  exact ⟨(hb.cell (World.block_lt_of_cell? _ _ H.1)).trans H.1, (hb.cell (World.block_lt_of_cell? _ _ H.2.1)).trans H.2.1, (hb.cell (World.block_lt_of_cell? _ _ H.2.2.1)).trans H.2.2.1, (hb.cell (World.block_lt_of_cell? _ _ H.2.2.2.1)).trans H.2.2.2.1, H.2.2.2.2.trans (hb.mono (by omega))⟩

theorem fin_awake {w wr wA : World} {nq : Nat} (h : Below w.heap.size w wr) (hb : Below (wr.drewN nq).heap.size (wr.drewN nq) wA) : Below w.heap.size w wA :=
  (h.trans (Drawn.below ⟨nq, rfl⟩ _)).trans (hb.mono (by have := h.size; simpa using this))

set_option maxHeartbeats 8000000 in
set_option maxRecDepth 100000 in
theorem short_good (M : Nat) (a : Option Addr) (c : Nat) (ps : List (Int × Int)) (bb off d : Nat) (zs : List Int) (w : World) (hE : Edg w a c ps) (hps : ps.length ≤ 200) (h0 : 0 < zs.length) (hz : zs.length ≤ 100) (hk : gchk (M : Int) ps = 0)
    (hzs : ∀ i, i < zs.length → w.cell? ⟨bb, off + i, none⟩ = some (.int .i64 (zs.getD i 0))) :
    Calls Try.prog 7 #[.agg #[.int .i64 (M : Int), .slice a ps.length c], .slice (some ⟨bb, off, none⟩) zs.length d] w fun e w' => e = .returned (.bool true) ∧ Below w.heap.size w w' := by
  obtain ⟨n, hl⟩ : ∃ n, ps.length = n := ⟨_, rfl⟩
  obtain ⟨m, hm⟩ : ∃ m, zs.length = m := ⟨_, rfl⟩
  have Hg := Lib.hid (gchk_ok hk)
  have Hl := Lib.hid hl
  have Hm := Lib.hid hm
  have HE := Lib.hid hE
  have Hk := Lib.hid hk
  have Hzs := Lib.hid hzs
  rw [hl] at hps ⊢
  rw [hm] at h0 hz ⊢
  have hM : M ≤ 8192 := by have := Hg.out.hi; omega
  have hcap : n ≤ maxLen := by unfold maxLen; omega
  have hd1 : decide ((200 : Int) < (n : Int)) = false := by simp; omega
  have hd2 : ((m : Int) == 0) = false := by rw [beq_eq_false_iff_ne]; omega
  have hd3 : decide ((100 : Int) < (m : Int)) = false := by simp; omega
  have hbz : bb < w.heap.size := by have := World.block_lt_of_cell? _ _ (hzs 0 (by omega)); exact this
  obtain ⟨w0, hw0⟩ : ∃ w0, w.alloc (Obj.cells #[Value.int .i64 (M : Int), Value.slice a n c] 24) = w0 := ⟨_, rfl⟩
  have hz0 : w.heap.size < w0.heap.size := by rw [← hw0]; simp
  have q0 : w0.cell? ⟨w.heap.size, 0, none⟩ = some (.int .i64 (M : Int)) := by rw [← hw0]; simp [go_sem]
  have q1 : w0.cell? ⟨w.heap.size, 1, none⟩ = some (.slice a n c) := by rw [← hw0]; simp [go_sem]
  have HB0 : Hid (Below w.heap.size w w0) := by show Below _ _ _; rw [← hw0]; exact (Below.refl w.heap.size w).alloc (Nat.le_refl _) _
  have Hw0 := Lib.hid hw0
  clear hE hl hm hk hzs hw0
  go_enter Try.func7, Try.ntmps7
  go_wp2_with fail
  rw [Hw0.out]
  refine (rchk_at (M : Int) a n c ps 0 Hk.out _ Hl.out hcap (HE.out.below HB0.out (Nat.le_refl _)).pairs).mono ?_
  rintro e w1 ⟨rfl, hb1⟩
  have hz1 : w.heap.size < w1.heap.size := by have := hb1.size; omega
  have p0 := (hb1.cell (p := ⟨w.heap.size, 0, none⟩) hz0).trans q0
  have p1 := (hb1.cell (p := ⟨w.heap.size, 1, none⟩) hz0).trans q1
  have HB1 := Lib.hid (HB0.out.trans (hb1.mono (Nat.le_of_lt hz0)))
  clear hb1 q0 q1 hz0
  go_wp2_with fail
  go_loopw [5] (fun i wr => ∃ k : Nat, k ≤ m ∧ i = .int .i64 k ∧ PreP (M : Int) ps zs k ∧ Below w1.heap.size w1 wr) (fun i _ => m - (intOf i).toNat)
  case atStart => exact ⟨0, Nat.zero_le _, rfl, fun j hj => by omega, .refl _ _⟩
  case round =>
    obtain ⟨k, hk, rfl, hpre, hb⟩ := hrel
    have Hpre := Lib.hid hpre
    have Hb := Lib.hid hb
    have HBr := Lib.hid (HB1.out.trans (hb.mono (Nat.le_of_lt hz1)))
    have hsz := hb.size
    have g0 := (hb.cell (p := ⟨w.heap.size, 0, none⟩) hz1).trans p0
    have g1 := (hb.cell (p := ⟨w.heap.size, 1, none⟩) hz1).trans p1
    have hzr : w.heap.size < wr.heap.size := by omega
    clear hpre hb
    by_cases hlt : k < m
    · have hcx := (HBr.out.cell (p := ⟨bb, off + k, none⟩) hbz).trans (Hzs.out k (by rw [Hm.out]; exact hlt))
      obtain ⟨x, hx⟩ : ∃ x, zs.getD k 0 = x := ⟨_, rfl⟩
      rw [hx] at hcx
      have Hx := Lib.hid hx
      clear hx
      by_cases x0 : x < 0
      · go_wp2
        go_quiet (fail)
        go_wp2_with (go_at_call 10; refine (awake_any _).mono ?_; rintro e wA ⟨rfl, hbA⟩)
        go_ret
        exact ⟨rfl, fin_awake HBr.out hbA⟩
      · have hx0 : decide (x < 0) = false := by simpa using x0
        have x0' : 0 ≤ x := by omega
        by_cases x1 : (M : Int) ≤ x
        · go_wp2
          go_quiet (fail)
          go_wp2_with (go_at_call 10; refine (awake_any _).mono ?_; rintro e wA ⟨rfl, hbA⟩)
          go_ret
          exact ⟨rfl, fin_awake HBr.out hbA⟩
        · have hx1 : decide ((M : Int) ≤ x) = false := by simpa using x1
          have x1' : x < (M : Int) := by omega
          by_cases k0 : k = 0
          · have Hn := Lib.hid (Hpre.out.next (by rw [Hx.out]; exact x0') (by rw [Hx.out]; exact x1') (fun h => by omega))
            have tk : ¬ (0 : Int) < (k : Int) := by omega
            have tk2 : ¬ 0 < k := by omega
            have tk3 : decide ((0 : Int) < (k : Int)) = false := by simpa using tk2
            clear k0
            go_wp2
            go_quiet (fail)
            go_wp2
            go_roundw
            case rel => exact ⟨k + 1, by omega, by go_num, Hn.out, Hb.out.trans (Drawn.below ⟨_, rfl⟩ _)⟩
            case measure => simp [intOf]; omega
          · have hk1 : (0 : Int) < (k : Int) := by omega
            have hk3 : 0 < k := by omega
            have hwr : IntKind.i64.wrap ((k : Int) - 1) = ((k - 1 : Nat) : Int) := by
              simp [IntKind.wrap, IntKind.bits, IntKind.signed]; omega
            have hk2 : k - 1 < m := by omega
            have hcp := (HBr.out.cell (p := ⟨bb, off + (k - 1), none⟩) hbz).trans (Hzs.out (k - 1) (by rw [Hm.out]; exact hk2))
            obtain ⟨y, hy⟩ : ∃ y, zs.getD (k - 1) 0 = y := ⟨_, rfl⟩
            rw [hy] at hcp
            have Hy := Lib.hid hy
            have hyn := (Hpre.out (k - 1) (by omega)).1
            rw [hy] at hyn
            have Hnode : Hid (nodeB (M : Int) ps y = true) := by
              show _ = _
              unfold nodeB
              rw [Hk.out, isNd_iff.2 hyn]; rfl
            obtain ⟨L, hL⟩ : ∃ L, succL ps y = L := ⟨_, rfl⟩
            obtain ⟨q, hq⟩ : ∃ q, L.length = q := ⟨_, rfl⟩
            obtain ⟨r, hr⟩ : ∃ r, L.contains x = r := ⟨_, rfl⟩
            have HL := Lib.hid hL
            have Hq := Lib.hid hq
            have hS0 : wr.drew.cell? ⟨w.heap.size, 0, none⟩ = some (.int .i64 (M : Int)) ∧ wr.drew.cell? ⟨w.heap.size, 1, none⟩ = some (.slice a n c) ∧ wr.drew.cell? ⟨bb, off + k, none⟩ = some (.int .i64 x) ∧ wr.drew.cell? ⟨bb, off + (k - 1), none⟩ = some (.int .i64 y) ∧ Below wr.heap.size wr wr.drew := ⟨g0, g1, hcx, hcp, Drawn.below ⟨1, rfl⟩ _⟩
            cases r with
            | true =>
              have Hr := Lib.hid hr
              have Hn := Lib.hid (Hpre.out.next (by rw [Hx.out]; exact x0') (by rw [Hx.out]; exact x1') (fun _ => by
                rw [Hx.out, Hy.out]
                rw [← hL] at hr
                exact mem_succL.1 (List.contains_iff_mem.1 hr)))
              clear hy hL hq hr hyn
              go_wp2
              go_region_held3 (fun X => X.cell? ⟨w.heap.size, 0, none⟩ = some (.int .i64 (M : Int)) ∧ X.cell? ⟨w.heap.size, 1, none⟩ = some (.slice a n c) ∧ X.cell? ⟨bb, off + k, none⟩ = some (.int .i64 x) ∧ X.cell? ⟨bb, off + (k - 1), none⟩ = some (.int .i64 y) ∧ Below wr.heap.size wr X)
                (first | with_reducible assumption | fail)
                (first
                  | (go_at_call 15; (with_reducible refine Calls.mono (rsucc_at (M : Int) a n c ps y L q HL.out Hq.out _ Hl.out (by omega) (HE.out.pairs.below (HBr.out.trans ((by exact (by assumption : _ ∧ _ ∧ _ ∧ _ ∧ Below wr.heap.size wr _).2.2.2.2.mono (Nat.le_of_lt hzr)))) (Nat.le_refl _)) Hnode.out) ?_); rintro e wA ⟨b1, j1, rfl, hi1, hmm, hbA⟩; have hSA := keepS (by assumption) rfl hbA)
                  | (go_at_call 25; (with_reducible refine Calls.mono (in_at b1 q j1 L x true Hr.out Hq.out _ hmm hi1) ?_); rintro e wB ⟨rfl, rfl⟩))
              have HbA := Lib.hid hSA.2.2.2.2
              clear hSA hS0 hi1 hbA
              go_wp2
              go_roundw
              case rel => exact ⟨k + 1, by omega, by go_num, Hn.out, Hb.out.trans (HbA.out.mono hsz)⟩
              case measure => simp [intOf]; omega
            | false =>
              have Hr := Lib.hid hr
              clear hy hL hq hr hyn
              go_wp2
              go_region_held3 (fun X => X.cell? ⟨w.heap.size, 0, none⟩ = some (.int .i64 (M : Int)) ∧ X.cell? ⟨w.heap.size, 1, none⟩ = some (.slice a n c) ∧ X.cell? ⟨bb, off + k, none⟩ = some (.int .i64 x) ∧ X.cell? ⟨bb, off + (k - 1), none⟩ = some (.int .i64 y) ∧ Below wr.heap.size wr X)
                (first | with_reducible assumption | fail)
                (first
                  | (go_at_call 15; (with_reducible refine Calls.mono (rsucc_at (M : Int) a n c ps y L q HL.out Hq.out _ Hl.out (by omega) (HE.out.pairs.below (HBr.out.trans ((by exact (by assumption : _ ∧ _ ∧ _ ∧ _ ∧ Below wr.heap.size wr _).2.2.2.2.mono (Nat.le_of_lt hzr)))) (Nat.le_refl _)) Hnode.out) ?_); rintro e wA ⟨b1, j1, rfl, hi1, hmm, hbA⟩; have hSA := keepS (by assumption) rfl hbA)
                  | (go_at_call 25; (with_reducible refine Calls.mono (in_at b1 q j1 L x false Hr.out Hq.out _ hmm hi1) ?_); rintro e wB ⟨rfl, rfl⟩))
              have HbA := Lib.hid hSA.2.2.2.2
              clear hSA hS0 hi1 hbA
              go_wp2_with (go_at_call 10; refine (awake_any _).mono ?_; rintro e wC ⟨rfl, hbC⟩)
              go_ret
              exact ⟨rfl, (HBr.out.trans (HbA.out.mono (Nat.le_of_lt hzr))).trans (hbC.mono (by have := HbA.out.size; omega))⟩
    · obtain rfl : k = m := by omega
      obtain ⟨f, hf⟩ : ∃ f : Nat, zs.getD 0 0 = (f : Int) := ⟨(zs.getD 0 0).toNat, by have := (Hpre.out 0 h0).1; omega⟩
      obtain ⟨t, ht⟩ : ∃ t : Nat, zs.getD (k - 1) 0 = (t : Int) := ⟨(zs.getD (k - 1) 0).toNat, by have := (Hpre.out (k - 1) (by omega)).1; omega⟩
      have hfM : f < M := by have := (Hpre.out 0 h0).1; omega
      have htM : t < M := by have := (Hpre.out (k - 1) (by omega)).1; omega
      have hc0 := (HBr.out.cell (p := ⟨bb, off + 0, none⟩) hbz).trans (Hzs.out 0 (by rw [Hm.out]; exact h0))
      have hc1 := (HBr.out.cell (p := ⟨bb, off + (k - 1), none⟩) hbz).trans (Hzs.out (k - 1) (by rw [Hm.out]; omega))
      rw [hf, Nat.add_zero] at hc0
      rw [ht] at hc1
      have hle := path_least (N := M) Hg.out (fr := (f : Int)) (t := (t : Int)) (by omega) (by omega) (by omega) (by omega) (fun i => zs.getD i 0) (k - 1) hf ht (fun j hj => by have := (Hpre.out (j + 1) (by omega)).2 (by omega); simpa using this)
      have his := path_is (N := M) Hg.out (fr := (f : Int)) (t := (t : Int)) (by omega) (by omega) (by omega) (by omega) hle.1
      obtain ⟨P, hP⟩ : ∃ P, pathL (M : Int) ps (f : Int) (t : Int) = P := ⟨_, rfl⟩
      obtain ⟨q, hq⟩ : ∃ q, P.length = q := ⟨_, rfl⟩
      rw [hP, hq] at hle his
      have hq0 : 0 < q := his.1
      have hqk : q ≤ k := by have := hle.2; omega
      have HP := Lib.hid hP
      have Hq := Lib.hid hq
      have His := Lib.hid his
      have Hle := Lib.hid hle
      have hwr : IntKind.i64.wrap ((k : Int) - 1) = ((k - 1 : Nat) : Int) := by
        simp [IntKind.wrap, IntKind.bits, IntKind.signed]; omega
      have hk2 : k - 1 < k := by omega
      have hrch : isNd (M : Int) (f : Int) = true ∧ Rch ps (f : Int) (t : Int) := by
        refine ⟨isNd_iff.2 ⟨by omega, by omega⟩, ?_⟩
        have := rch_of_path (ps := ps) (zs := zs) (k - 1) (fun j hj => by have := (Hpre.out (j + 1) (by omega)).2 (by omega); simpa using this)
        rwa [hf, ht] at this
      have Hrch := Lib.hid hrch
      clear hf ht hP hq his hle hrch
      go_wp2
      go_quiet (fail)
      go_wp2_with fail
      refine (path_at M a n c ps f t P q HP.out Hq.out Hle.out.1 _ Hl.out (HE.out.below (HBr.out.trans (Drawn.below ⟨_, rfl⟩ _)) (Nat.le_refl _)) Hk.out hfM htM).mono ?_
      rintro e w3 ⟨pb, pc, rfl, hi3, hmx, hb3⟩
      have hb3' : Below wr.heap.size wr w3 := (Drawn.below ⟨_, rfl⟩ _).trans hb3
      obtain ⟨b3, o3, rfl, hc3⟩ := hi3 (by rw [Hq.out]; exact hq0)
      have e0 := hc3 0 (by rw [Hq.out]; exact hq0)
      have e1 := hc3 (q - 1) (by rw [Hq.out]; omega)
      rw [His.out.2.1, Nat.add_zero] at e0
      rw [His.out.2.2.1] at e1
      have p0' := (hb3'.cell (p := ⟨w.heap.size, 0, none⟩) hzr).trans g0
      have p1' := (hb3'.cell (p := ⟨w.heap.size, 1, none⟩) hzr).trans g1
      have HC3 := Lib.hid hc3
      have HB3 := Lib.hid (HBr.out.trans (hb3'.mono (Nat.le_of_lt hzr)))
      have hz3 : w.heap.size < w3.heap.size := by have := hb3'.size; omega
      have hbz3 : b3 < w3.heap.size := World.block_lt_of_cell? _ _ e0
      have hqe : ((q : Int) == 0) = false := by rw [beq_eq_false_iff_ne]; omega
      have hqe2 : decide (k < q) = false := by simp; omega
      have hqb : (q : Int) ≤ 100 := by omega
      have hqb1 : (1 : Int) ≤ (q : Int) := by omega
      clear hb3 hb3' hi3 hc3 hc0 hc1 g0 g1 p0 p1
      go_wp2_with fail
      go_loopw [10] (fun i W => ∃ j : Nat, 1 ≤ j ∧ j ≤ q ∧ i = .int .i64 j ∧ Below w3.heap.size w3 W) (fun i _ => q - (intOf i).toNat)
      case atStart => exact ⟨1, by omega, by omega, rfl, .refl _ _⟩
      case round =>
        obtain ⟨j, hj1, hj2, rfl, hb⟩ := hrel
        have Hb4 := Lib.hid (HB3.out.trans (hb.mono (Nat.le_of_lt hz3)))
        have Hb := Lib.hid hb
        have hsz4 := hb.size
        have g0 := (hb.cell (p := ⟨w.heap.size, 0, none⟩) hz3).trans p0'
        have g1 := (hb.cell (p := ⟨w.heap.size, 1, none⟩) hz3).trans p1'
        clear hb
        by_cases hlt2 : j < q
        · have hcx := (Hb.out.cell (p := ⟨b3, o3 + j, none⟩) hbz3).trans (HC3.out j (by rw [Hq.out]; exact hlt2))
          have hcp := (Hb.out.cell (p := ⟨b3, o3 + (j - 1), none⟩) hbz3).trans (HC3.out (j - 1) (by rw [Hq.out]; omega))
          have hedge := His.out.2.2.2 (j - 1) (by omega)
          rw [show j - 1 + 1 = j by omega] at hedge
          obtain ⟨x, hx⟩ : ∃ x, P.getD j 0 = x := ⟨_, rfl⟩
          obtain ⟨y, hy⟩ : ∃ y, P.getD (j - 1) 0 = y := ⟨_, rfl⟩
          rw [hx] at hcx hedge
          rw [hy] at hcp hedge
          have hr := contains_succL hedge
          obtain ⟨L, hL⟩ : ∃ L, succL ps y = L := ⟨_, rfl⟩
          obtain ⟨l, hl⟩ : ∃ l, L.length = l := ⟨_, rfl⟩
          rw [hL] at hr
          have HL := Lib.hid hL
          have Hll := Lib.hid hl
          have Hr := Lib.hid hr
          have hwr2 : IntKind.i64.wrap ((j : Int) - 1) = ((j - 1 : Nat) : Int) := by
            simp [IntKind.wrap, IntKind.bits, IntKind.signed]; omega
          have hj3 : j - 1 < q := by omega
          have hzr4 : w.heap.size < wr.heap.size := by omega
          have hS0 : wr.drew.cell? ⟨w.heap.size, 0, none⟩ = some (.int .i64 (M : Int)) ∧ wr.drew.cell? ⟨w.heap.size, 1, none⟩ = some (.slice a n c) ∧ wr.drew.cell? ⟨b3, o3 + j, none⟩ = some (.int .i64 x) ∧ wr.drew.cell? ⟨b3, o3 + (j - 1), none⟩ = some (.int .i64 y) ∧ Below wr.heap.size wr wr.drew := ⟨g0, g1, hcx, hcp, Drawn.below ⟨1, rfl⟩ _⟩
          clear hx hy hedge hL hl hr hwr e0 e1 hqe hqe2
          go_wp2
          go_region_held3 (fun X => X.cell? ⟨w.heap.size, 0, none⟩ = some (.int .i64 (M : Int)) ∧ X.cell? ⟨w.heap.size, 1, none⟩ = some (.slice a n c) ∧ X.cell? ⟨b3, o3 + j, none⟩ = some (.int .i64 x) ∧ X.cell? ⟨b3, o3 + (j - 1), none⟩ = some (.int .i64 y) ∧ Below wr.heap.size wr X)
            (first | with_reducible assumption | fail)
            (first
              | (go_at_call 14; (with_reducible refine Calls.mono (succ_at (M : Int) a n c ps y L l HL.out Hll.out _ Hl.out (HE.out.below (Hb4.out.trans ((by exact (by assumption : _ ∧ _ ∧ _ ∧ _ ∧ Below wr.heap.size wr _).2.2.2.2.mono (Nat.le_of_lt hzr4)))) (Nat.le_refl _)) Hk.out) ?_); rintro e wA ⟨b1, j1, rfl, hi1, hmm, hbA⟩; have hSA := keepS (by assumption) rfl hbA)
              | (go_at_call 25; (with_reducible refine Calls.mono (in_at b1 l j1 L x true Hr.out Hll.out _ hmm hi1) ?_); rintro e wB ⟨rfl, rfl⟩))
          have HbA := Lib.hid hSA.2.2.2.2
          clear hSA hS0 hi1 hbA
          go_wp2
          go_roundw
          case rel => exact ⟨j + 1, by omega, by omega, by go_num, Hb.out.trans (HbA.out.mono hsz4)⟩
          case measure => simp [intOf]; omega
        · obtain rfl : j = q := by omega
          obtain ⟨R1, hR1⟩ : ∃ R, reachL (M : Int) ps [(f : Int)] = R := ⟨_, rfl⟩
          obtain ⟨m1, hm1⟩ : ∃ m, R1.length = m := ⟨_, rfl⟩
          have hr1 : R1.contains (t : Int) = true := by rw [← hR1]; exact List.contains_iff_mem.2 ((reach_iff Hg.out _ _).2 Hrch.out)
          have HR1 := Lib.hid hR1
          have Hm1 := Lib.hid hm1
          have Hr1 := Lib.hid hr1
          have hzr4 : w.heap.size < wr.heap.size := by omega
          clear hR1 hm1 hr1 hwr e0 e1 hqe hqe2
          go_wp2_with fail
          refine (reach_at M (M : Int) rfl a n c ps _ _ (f : Int) R1 m1 HR1.out Hm1.out _ Hl.out (HE.out.below (Hb4.out.alloc (Nat.le_of_lt hzr4) _) (Nat.le_refl _)) Hk.out (one_ints _ _ _)).mono ?_
          rintro e w5 ⟨b5, j5, rfl, hi5, hm5, hb5⟩
          have Hb5 := Lib.hid ((Hb4.out.alloc (Nat.le_of_lt hzr4) _).trans (hb5.mono (by simp; omega)))
          have Hi5 := Lib.hid hi5
          clear hb5 hi5
          go_wp2_with (first
            | (go_at_call 25; (with_reducible refine Calls.mono (in_at b5 m1 j5 R1 (t : Int) true Hr1.out Hm1.out _ hm5 Hi5.out) ?_); rintro e wH ⟨rfl, rfl⟩)
            | (go_at_call 10; (with_reducible refine Calls.mono (awake_any _) ?_); rintro e wL ⟨rfl, hbL⟩))
          go_ret
          exact ⟨rfl, Hb5.out.trans (hbL.mono Hb5.out.size)⟩
end Go.Proofs.Ythgnbpiemkcdhaa
