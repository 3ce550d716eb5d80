/-
  The iterator over the successors of a node: which nodes it hands to the loop, and what it asks of the loop's body.
-/
import Derived.Test.YtcmliokkamgcdaaGSearch
import Derived.RangeFuncNested
import Derived.RangeFuncBound
import Derived.RangeFuncCalls
import Derived.RangeFuncLeaves
import Derived.Shelf.Abstract
import Derived.Shelf.RegionOpen
import Derived.OwnWalkIn
import Derived.TacticsInMore
import Derived.LoopNIn
import Derived.LoopIn
namespace Go.Proofs.Ytcmliokkamgcdaa
open Go.RowKit Go.Shelf
set_option linter.unusedVariables false
attribute [local go_sem] Oper.semAt_some

/-- The successors of v, in the order of the edges. -/
def succL (ps : List (Int × Int)) (v : Int) : List Int := (ps.filter fun e => decide (e.1 = v)).map Prod.snd
/-- The ends of k edges from edge i on. -/
def endsAt (ps : List (Int × Int)) (i k : Nat) : List Int := (List.range k).map fun j => (ps.getD (i + j) (0, 0)).2
theorem endsAt_succ (ps : List (Int × Int)) (i k : Nat) : endsAt ps i (k + 1) = endsAt ps i k ++ [(ps.getD (i + k) (0, 0)).2] := by simp [endsAt, List.range_succ]
theorem length_endsAt (ps : List (Int × Int)) (i k : Nat) : (endsAt ps i k).length = k := by simp [endsAt]

theorem succL_append (ps qs : List (Int × Int)) (v : Int) : succL (ps ++ qs) v = succL ps v ++ succL qs v := by simp [succL]
theorem succL_none (ps : List (Int × Int)) (v : Int) (h : ∀ t, t < ps.length → (ps.getD t (0, 0)).1 ≠ v) : succL ps v = [] := by
  have : ps.filter (fun e => decide (e.1 = v)) = [] := by
    rw [List.filter_eq_nil_iff]
    intro e he
    obtain ⟨t, ht, rfl⟩ := List.getElem_of_mem he
    have := h t ht
    simpa [List.getD_eq_getElem?_getD, ht] using this
  simp [succL, this]
theorem succL_all (ps : List (Int × Int)) (v : Int) (h : ∀ t, t < ps.length → (ps.getD t (0, 0)).1 = v) : succL ps v = ps.map Prod.snd := by
  have : ps.filter (fun e => decide (e.1 = v)) = ps := by
    rw [List.filter_eq_self]
    intro e he
    obtain ⟨t, ht, rfl⟩ := List.getElem_of_mem he
    have := h t ht
    simpa [List.getD_eq_getElem?_getD, ht] using this
  simp [succL, this]
theorem getD_take' (ps : List (Int × Int)) (n t : Nat) (h : t < n) : (ps.take n).getD t (0, 0) = ps.getD t (0, 0) := by
  simp [List.getD_eq_getElem?_getD, h]
theorem getD_drop' (ps : List (Int × Int)) (n t : Nat) : (ps.drop n).getD t (0, 0) = ps.getD (n + t) (0, 0) := by
  simp [List.getD_eq_getElem?_getD]
theorem endsAt_map (ps : List (Int × Int)) (i k : Nat) (h : i + k ≤ ps.length) : endsAt ps i k = ((ps.drop i).take k).map Prod.snd := by
  apply List.ext_getElem
  · simp [endsAt]; omega
  · intro j h1 h2
    rw [length_endsAt] at h1
    simp [endsAt, List.getD_eq_getElem?_getD, show i + j < ps.length by omega]
theorem succL_split (ps : List (Int × Int)) (v : Int) (i k : Nat) (hi : i + k ≤ ps.length) (h1 : ∀ t, t < i → (ps.getD t (0, 0)).1 < v) (h2 : ∀ j, j < k → (ps.getD (i + j) (0, 0)).1 = v) :
    succL ps v = endsAt ps i k ++ succL ((ps.drop i).drop k) v := by
  have e : ps = ps.take i ++ ((ps.drop i).take k ++ (ps.drop i).drop k) := by rw [List.take_append_drop, List.take_append_drop]
  have a : succL (ps.take i) v = [] := succL_none _ _ fun t ht => by
    rw [List.length_take] at ht
    rw [getD_take' _ _ _ (by omega)]
    have := h1 t (by omega)
    omega
  have b : succL ((ps.drop i).take k) v = endsAt ps i k := by
    rw [endsAt_map ps i k hi]
    refine succL_all _ _ fun t ht => ?_
    rw [List.length_take] at ht
    rw [getD_take' _ _ _ (by omega), getD_drop']
    exact h2 t (by omega)
  conv => lhs; rw [e]
  rw [succL_append, succL_append, a, b, List.nil_append]
theorem succL_pre (ps : List (Int × Int)) (v : Int) (i k : Nat) (hi : i + k ≤ ps.length) (h1 : ∀ t, t < i → (ps.getD t (0, 0)).1 < v) (h2 : ∀ j, j < k → (ps.getD (i + j) (0, 0)).1 = v) : endsAt ps i k <+: succL ps v := by
  rw [succL_split ps v i k hi h1 h2]
  exact List.prefix_append _ _
theorem succL_run (ps : List (Int × Int)) (v : Int) (i k : Nat) (hm : Mono ps) (hi : i + k ≤ ps.length) (h1 : ∀ t, t < i → (ps.getD t (0, 0)).1 < v) (h2 : ∀ j, j < k → (ps.getD (i + j) (0, 0)).1 = v)
    (h3 : i + k < ps.length → v < (ps.getD (i + k) (0, 0)).1) : endsAt ps i k = succL ps v := by
  rw [succL_split ps v i k hi h1 h2, succL_none ((ps.drop i).drop k) v, List.append_nil]
  intro t ht
  rw [List.length_drop, List.length_drop] at ht
  rw [getD_drop', getD_drop']
  have := h3 (by omega)
  have := hm (i + k) (i + (k + t)) (by omega) (by omega)
  omega

/-- The blocks that the iterator reads between two rounds are as they were. -/
def KpG (bg bv be : Nat) (A B : World) : Prop := (B.heap[bg]? = A.heap[bg]? ∧ B.heap[bv]? = A.heap[bv]? ∧ B.heap[be]? = A.heap[be]?) ∧ A.heap.size ≤ B.heap.size
theorem KpG.trans {bg bv be : Nat} {A B C : World} (h : KpG bg bv be A B) (k : KpG bg bv be B C) : KpG bg bv be A C :=
  ⟨⟨k.1.1.trans h.1.1, k.1.2.1.trans h.1.2.1, k.1.2.2.trans h.1.2.2⟩, Nat.le_trans h.2 k.2⟩
theorem KpG.refl (bg bv be : Nat) (A : World) : KpG bg bv be A A := ⟨⟨rfl, rfl, rfl⟩, Nat.le_refl _⟩
theorem KpG.of_below {bg bv be B : Nat} {A W : World} (h : Below B A W) (h1 : bg < B) (h2 : bv < B) (h3 : be < B) : KpG bg bv be A W := ⟨⟨h.block _ h1, h.block _ h2, h.block _ h3⟩, h.size⟩
theorem KpG.put {bg bv be : Nat} {w : World} (h1 : bg < w.heap.size) (h2 : bv < w.heap.size) (h3 : be < w.heap.size) (W : World) (l : Nat) (o o' : Obj) (hl : w.heap.size ≤ l) (h : W.heap[l]? = some o) (a : o.isCells = false) (b : o.isWalk = false) : KpG bg bv be W (W.putObj l o') :=
  .of_below (belowK_b (n₀ := w.heap.size) (Nat.le_refl _) W l o o' hl h a b) h1 h2 h3
theorem KpG.cell {bg bv be : Nat} {A B : World} (h : KpG bg bv be A B) {q : Addr} (hq : q.block = bg ∨ q.block = bv ∨ q.block = be) : B.cell? q = A.cell? q := by
  refine World.cell?_of_block (w := A) ?_
  rcases hq with e | e | e
  · rw [e]; exact h.1.1
  · rw [e]; exact h.1.2.1
  · rw [e]; exact h.1.2.2
theorem grown_of_below {A W : World} (h : Below A.heap.size A W) : A.grownBy W none := ⟨h.os, h.tape, h.output, h.size, fun k hk _ => h.block k hk⟩

set_option maxRecDepth 100000 in
set_option maxHeartbeats 4000000 in
theorem iter_in (P : Int → Prop) (n : Nat) (hn : 1 ≤ n) (l bg bv be off c : Nat) (N v : Int) (ps : List (Int × Int)) (hm : Mono ps) (hlen : ps.length ≤ 32768) (hcap : ps.length ≤ c) (J Jx : List Int → World → Prop) (W : World)
    (hJ : AbidesFrom W.heap.size J)
    (hP : ∀ i, i < ps.length → P (ps.getD i (0, 0)).2)
    (hY : ∀ pre x W1, P x → J pre W1 → pre.length < 40000 → YieldAt Fence.wide (n - 1) Try.prog l #[.int .i64 x] W1 fun e W' =>
      (e = .returned (.bool true) ∧ J (pre ++ [x]) W' ∧ KpG bg bv be W1 W') ∨ (e = .returned (.bool false) ∧ Jx (pre ++ [x]) W'))
    (hg0 : W.cell? ⟨bg, 1, none⟩ = some (.slice (some ⟨be, off, none⟩) ps.length c)) (hv0 : W.cell? ⟨bv, 0, none⟩ = some (.int .i64 v))
    (hp : ∀ i, i < ps.length → W.cell? ⟨be, off + i * 2, none⟩ = some (.int .i64 (ps.getD i (0, 0)).1) ∧ W.cell? ⟨be, off + i * 2 + 1, none⟩ = some (.int .i64 (ps.getD i (0, 0)).2)) (hbe : be < W.heap.size) (h0 : J [] W) :
    CallsIn Fence.wide n Try.prog 75 #[.func (.yield l) #[] #[], .pointer (some ⟨bg, 0, none⟩), .pointer (some ⟨bv, 0, none⟩)] W fun e W' => (∃ v, e = .returned v) ∧
      ((∃ ys, ys = succL ps v ∧ J ys W') ∨ (∃ pre, pre <+: succL ps v ∧ Jx pre W')) := by
  have hpairs : Pairs W (some ⟨be, off, none⟩) ps := fun _ => ⟨be, off, rfl, hp⟩
  refine callsIn_of_wp Try.func75 rfl trivial ?_ rfl
  simp only [Try.ntmps75, List.size_toArray, List.length_cons, List.length_nil, Nat.reduceAdd, Nat.reduceSub, Array.replicate_succ, Array.replicate_zero, List.push_toArray, List.append_toArray, List.nil_append, List.cons_append]
  gi_wp2_with fail
  refine ⟨trivial, (callsIn_wide.2 (search_any _ c ps v W hlen hm hpairs)).mono ?_⟩
  rintro e w1 ⟨i0, f, rfl, hi0, hlo, hhi, hb1⟩
  have hJ1 : J [] w1 := hJ [] W w1 none h0 (grown_of_below hb1) (fun r e => by cases e)
  have hg1 := (hb1.cell (p := ⟨bg, 1, none⟩) (World.block_lt_of_cell? _ _ hg0)).trans hg0
  have hv1 := (hb1.cell (p := ⟨bv, 0, none⟩) (World.block_lt_of_cell? _ _ hv0)).trans hv0
  have hp1 := fun i hi => And.intro ((hb1.cell (p := ⟨be, off + i * 2, none⟩) hbe).trans (hp i hi).1) ((hb1.cell (p := ⟨be, off + i * 2 + 1, none⟩) hbe).trans (hp i hi).2)
  have hbg := Nat.lt_of_lt_of_le (World.block_lt_of_cell? _ _ hg0) hb1.size
  have hbv := Nat.lt_of_lt_of_le (World.block_lt_of_cell? _ _ hv0) hb1.size
  have hbe1 := Nat.lt_of_lt_of_le hbe hb1.size
  simp only at hbg hbv
  have Hm := Lib.hid hm
  have Hlo := Lib.hid hlo
  have Hhi := Lib.hid hhi
  have Hp := Lib.hid hp1
  have HJ := Lib.hid hJ
  have HY := Lib.hid hY
  have HP := Lib.hid hP
  have HJ1 := Lib.hid hJ1
  obtain ⟨m, hl⟩ : ∃ m, ps.length = m := ⟨_, rfl⟩
  have Hl := Lib.hid hl
  rw [hl] at hg1 hlen hcap hi0
  have Hb1 := Lib.hid hb1
  clear hg0 hv0 hp hpairs h0 hm hlo hhi hp1 hJ hY hP hJ1 hb1
  rw [hl]
  clear hl
  by_cases hlt0 : i0 < m
  · have hcc : ¬ c = i0 := by omega
    have hcc2 : i0 ≤ c := by omega
    gi_wp2
    gi_loopw [20] (fun i wr => ∃ k : Nat, k ≤ m - i0 ∧ i = .int .i64 k ∧ (∀ j, j < k → (ps.getD (i0 + j) (0, 0)).1 = v) ∧ J (endsAt ps i0 k) wr ∧ KpG bg bv be w1 wr) (fun i _ => m - i0 - (intOf i).toNat)
    case atStart => exact ⟨0, Nat.zero_le _, rfl, fun j hj => by omega, HJ1.out, KpG.refl _ _ _ _⟩
    case round =>
      obtain ⟨k, hk, rfl, hv, hj, hkp⟩ := hrel
      have HV := Lib.hid hv
      have HJk := Lib.hid hj
      have Hk := Lib.hid hkp
      have g1 := (hkp.cell (q := ⟨bg, 1, none⟩) (.inl rfl)).trans hg1
      have g2 := (hkp.cell (q := ⟨bv, 0, none⟩) (.inr (.inl rfl))).trans hv1
      have hsz := hkp.2
      clear hv hj hkp
      by_cases hlt : k < m - i0
      · obtain ⟨hcx, hcy⟩ := Hp.out (i0 + k) (by rw [Hl.out]; omega)
        have cx := (Hk.out.cell (q := ⟨be, off + (i0 + k) * 2, none⟩) (.inr (.inr rfl))).trans hcx
        have cy := (Hk.out.cell (q := ⟨be, off + (i0 + k) * 2 + 1, none⟩) (.inr (.inr rfl))).trans hcy
        have hge := Hhi.out (i0 + k) (by omega) (by rw [Hl.out]; omega)
        obtain ⟨⟨x, y⟩, he⟩ : ∃ e, ps.getD (i0 + k) (0, 0) = e := ⟨_, rfl⟩
        rw [he] at cx cy hge
        rw [show off + (i0 + k) * 2 = off + i0 * 2 + k * 2 by omega] at cx cy
        have He := Lib.hid he
        have g3 : ∀ o, (wr.alloc o).cell? ⟨bv, 0, none⟩ = some (.int .i64 v) := fun o => (((Below.refl wr.heap.size wr).alloc (Nat.le_refl _) o).cell (p := ⟨bv, 0, none⟩) (World.block_lt_of_cell? _ _ g2)).trans g2
        clear hcx hcy he
        by_cases hxv : x = v
        · subst hxv
          have hJa : J (endsAt ps i0 k) (wr.alloc (Obj.cells #[Value.int .i64 x, Value.int .i64 y] 52)) := HJ.out _ wr _ none HJk.out (World.grownBy_alloc wr _ none) (fun r e => by cases e)
          obtain ⟨fn, tmps, assign, body, hy, hR⟩ := HY.out _ y _ (by have := HP.out (i0 + k) (by rw [Hl.out]; omega); rw [He.out] at this; exact this) hJa (by rw [length_endsAt]; omega)
          clear hJa hge
          have HVn : Hid (∀ j, j < k + 1 → (ps.getD (i0 + j) (0, 0)).1 = x) := by
            intro j hj
            by_cases e : j = k
            · subst e; rw [He.out]
            · exact HV.out j (by omega)
          have hend : Hid (endsAt ps i0 (k + 1) = endsAt ps i0 k ++ [y]) := by
            show _ = _
            rw [endsAt_succ, He.out]
          have hka : Hid (KpG bg bv be w1 (wr.alloc (Obj.cells #[Value.int .i64 x, Value.int .i64 y] 52))) :=
            Hk.out.trans (.of_below ((Below.refl wr.heap.size wr).alloc (Nat.le_refl _) _) (by omega) (by omega) (by omega))
          have hpre := Lib.hid (succL_pre ps x i0 (k + 1) (by rw [Hl.out]; omega) Hlo.out HVn.out)
          gi_wp2
          refine hR.mono ?_
          rintro e W3 (⟨rfl, hJ3, hk3⟩ | ⟨rfl, hJx3⟩)
          · have HJ3 := Lib.hid hJ3
            have Hk3 := Lib.hid (hka.out.trans hk3)
            clear hJ3 hk3 hy hR
            gi_wp2
            go_roundw
            case rel => exact ⟨k + 1, by omega, by go_num, HVn.out, by rw [hend.out]; exact HJ3.out, Hk3.out⟩
            case measure => simp [intOf]; omega
          · have HJx3 := Lib.hid hJx3
            clear hJx3 hy hR
            gi_wp2
            refine bodyPost_ret (results_none rfl _ _ _) rfl ?_
            exact ⟨⟨_, rfl⟩, .inr ⟨_, by rw [← hend.out]; exact hpre.out, HJx3.out⟩⟩
        · have t0 : (x != v) = true := by simpa using hxv
          have hrun := Lib.hid (succL_run ps v i0 k Hm.out (by rw [Hl.out]; omega) Hlo.out HV.out (fun h => by rw [He.out]; show v < x; omega))
          have hJa := Lib.hid (HJ.out _ wr (wr.alloc (Obj.cells #[Value.int .i64 x, Value.int .i64 y] 52)) none HJk.out (World.grownBy_alloc wr _ none) (fun r e => by cases e))
          gi_wp2
          refine ⟨fun _ h => (by cases h), ?_⟩
          gi_wp2
          refine bodyPost_ret (results_none rfl _ _ _) rfl ?_
          exact ⟨⟨_, rfl⟩, .inl ⟨_, rfl, by rw [← hrun.out]; exact hJa.out⟩⟩
      · obtain rfl : k = m - i0 := by omega
        have hrun := Lib.hid (succL_run ps v i0 (m - i0) Hm.out (by rw [Hl.out]; omega) Hlo.out HV.out (fun h => by rw [Hl.out] at h; omega))
        gi_wp2
        go_end0
        exact ⟨⟨_, rfl⟩, .inl ⟨_, rfl, by rw [← hrun.out]; exact HJk.out⟩⟩
  · obtain rfl : i0 = m := by omega
    have hrun := Lib.hid (succL_run ps v i0 0 Hm.out (by rw [Hl.out]; omega) Hlo.out (fun j hj => by omega) (fun h => by rw [Hl.out] at h; omega))
    by_cases hcc : c = i0
    · subst hcc
      gi_wp2
      gi_loopw [20] (fun i wr => i = .int .i64 0 ∧ wr = w1) (fun _ _ => 0)
      case atStart => exact ⟨rfl, rfl⟩
      case round =>
        obtain ⟨rfl, rfl⟩ := hrel
        gi_wp2
        go_end0
        exact ⟨⟨_, rfl⟩, .inl ⟨_, rfl, by rw [← hrun.out]; exact HJ1.out⟩⟩
    · have hcc2 : i0 ≤ c := by omega
      gi_wp2
      gi_loopw [20] (fun i wr => i = .int .i64 0 ∧ wr = w1) (fun _ _ => 0)
      case atStart => exact ⟨rfl, rfl⟩
      case round =>
        obtain ⟨rfl, rfl⟩ := hrel
        gi_wp2
        go_end0
        exact ⟨⟨_, rfl⟩, .inl ⟨_, rfl, by rw [← hrun.out]; exact HJ1.out⟩⟩
end Go.Proofs.Ytcmliokkamgcdaa
