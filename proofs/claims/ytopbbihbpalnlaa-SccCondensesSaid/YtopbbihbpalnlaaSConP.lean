/-
  What SccCondenses stands on (SRefN, SRRch, SRecA, SRMk, SRAcy, SRCond in one text).
-/
import Derived.Test.YtopbbihbpalnlaaGRCheck
import Derived.Test.YtopbbihbpalnlaaSDist
import Derived.Test.YtopbbihbpalnlaaSRecG
import Derived.Test.YtopbbihbpalnlaaSInM
import Derived.Test.YtopbbihbpalnlaaGMake2
import Derived.Test.YtopbbihbpalnlaaSTellsP
import Derived.Test.YtopbbihbpalnlaaSAcyL
import Derived.Test.YtopbbihbpalnlaaSCond
namespace Go.Proofs.Ytopbbihbpalnlaa.D
open Go.RowKit Go.Shelf Go.WideShapes
set_option linter.unusedVariables false
def nodeB (N : Int) (ps : List (Int × Int)) (v : Int) : Bool := decide (gchk N ps = 0) && isNd N v
set_option maxHeartbeats 1000000 in
theorem rnode_any (N : Int) (a : Option Addr) (c : Nat) (ps : List (Int × Int)) (v : Int) (w : World) (hn : ps.length ≤ maxLen) (hE : Pairs w a ps) :
    Calls Try.prog 26 #[.agg #[.int .i64 N, .slice a ps.length c], .int .i64 v] w fun e w' => e = .returned (.bool (nodeB N ps v)) ∧ Below w.heap.size w w' := by
  obtain ⟨n, hl⟩ : ∃ n, ps.length = n := ⟨_, rfl⟩
  obtain ⟨k, hk⟩ : ∃ k, gchk N ps = k := ⟨_, rfl⟩
  have hb0 := (Below.refl w.heap.size w).alloc (Nat.le_refl _) (Obj.cells #[Value.int .i64 N, Value.slice a n c] 24)
  have hck : Calls Try.prog 28 #[.agg #[.int .i64 N, .slice a n c]] (w.alloc (Obj.cells #[Value.int .i64 N, Value.slice a n c] 24)) fun e w' => e = .returned (.int .i64 k) ∧ Below (w.heap.size + 1) (w.alloc (Obj.cells #[Value.int .i64 N, Value.slice a n c] 24)) w' := by
    have := rcheck_any N a c ps (w.alloc (Obj.cells #[Value.int .i64 N, Value.slice a n c] 24)) hn (hE.below hb0 (Nat.le_refl _))
    rw [hk, hl, World.size_alloc] at this
    exact this
  have Hb0 := Lib.hid hb0
  have Hck := Lib.hid hck
  have Hk := Lib.hid hk
  rw [hl]
  clear hck hb0 hE hl hk hn
  by_cases h0 : k = 0
  · subst h0
    by_cases h1 : 0 ≤ v
    · by_cases h2 : v < N
      · have T : Hid (true = nodeB N ps v) := by
          show _ = _
          unfold nodeB
          rw [Hk.out, isNd_iff.2 ⟨h1, h2⟩]; rfl
        go_enter Try.func26, Try.ntmps26
        go_wp2_with (go_at_call 28; refine Hck.out.mono ?_; rintro e w1 ⟨rfl, hb1⟩; have Hb1 := Lib.hid hb1; have g0 := (hb1.cell (p := ⟨w.heap.size, 0, none⟩) (by simp)).trans (show _ = some (Value.int .i64 N) by simp); clear hb1)
        go_ret
        exact ⟨ret_bool T.out, Hb0.out.trans (Hb1.out.mono (by omega))⟩
      · have T : Hid (false = nodeB N ps v) := by
          show _ = _
          unfold nodeB
          rw [show isNd N v = false by rw [← Bool.not_eq_true, isNd_iff]; omega, Bool.and_false]
        go_enter Try.func26, Try.ntmps26
        go_wp2_with (go_at_call 28; refine Hck.out.mono ?_; rintro e w1 ⟨rfl, hb1⟩; have Hb1 := Lib.hid hb1; have g0 := (hb1.cell (p := ⟨w.heap.size, 0, none⟩) (by simp)).trans (show _ = some (Value.int .i64 N) by simp); clear hb1)
        go_ret
        exact ⟨ret_bool ((decide_eq_false (show ¬ v < N by omega)).trans T.out), Hb0.out.trans (Hb1.out.mono (by omega))⟩
    · have T : Hid (false = nodeB N ps v) := by
        show _ = _
        unfold nodeB
        rw [show isNd N v = false by rw [← Bool.not_eq_true, isNd_iff]; omega, Bool.and_false]
      go_enter Try.func26, Try.ntmps26
      go_wp2_with (go_at_call 28; refine Hck.out.mono ?_; rintro e w1 ⟨rfl, hb1⟩; have Hb1 := Lib.hid hb1; clear hb1)
      go_ret
      exact ⟨ret_bool T.out, Hb0.out.trans (Hb1.out.mono (by omega))⟩
  · have T : Hid (false = nodeB N ps v) := by
      show _ = _
      unfold nodeB
      rw [Hk.out, decide_eq_false h0, Bool.false_and]
    have hb : (k == 0) = false := by rw [beq_eq_false_iff_ne]; exact h0
    go_enter Try.func26, Try.ntmps26
    go_wp2_with (go_at_call 28; refine Hck.out.mono ?_; rintro e w1 ⟨rfl, hb1⟩; have Hb1 := Lib.hid hb1; clear hb1)
    go_ret
    exact ⟨ret_bool T.out, Hb0.out.trans (Hb1.out.mono (by omega))⟩

theorem rnode_at (N : Int) (a : Option Addr) (n c : Nat) (ps : List (Int × Int)) (v : Int) (r : Bool) (hr : nodeB N ps v = r) (w : World) (hl : ps.length = n) (hn : n ≤ maxLen) (hE : Pairs w a ps) :
    Calls Try.prog 26 #[.agg #[.int .i64 N, .slice a n c], .int .i64 v] w fun e w' => e = .returned (.bool r) ∧ Below w.heap.size w w' := by
  subst hl hr; exact rnode_any N a c ps v w hn hE
end Go.Proofs.Ytopbbihbpalnlaa.D

namespace Go.Proofs.Ytopbbihbpalnlaa.D
open Go.RowKit Go.Shelf Go.WideShapes
set_option linter.unusedVariables false
theorem addR_keeps (st : List Bool × List Int) (x : Int) (k : Nat) (hk : k < st.2.length) : k < (addR st x).2.length ∧ (addR st x).2.getD k 0 = st.2.getD k 0 := by
  unfold addR
  split
  · exact ⟨hk, rfl⟩
  · exact ⟨by simp; omega, by rw [getD_appI, if_pos hk]⟩
theorem addR_sub (st : List Bool × List Int) (x : Int) : ∀ y ∈ st.2, y ∈ (addR st x).2 := fun y hy => by
  unfold addR
  split
  · exact hy
  · exact List.mem_append_left _ hy
theorem getD_setB (l : List Bool) (i j : Nat) (hi : i < l.length) : (l.set i true).getD j false = if i = j then true else l.getD j false := by
  simp only [List.getD_eq_getElem?_getD, List.getElem?_set]
  split
  · next h => subst h; simp
  · rfl
theorem foldR_keeps : ∀ (l : List Int) (st : List Bool × List Int) (k : Nat), k < st.2.length → k < (l.foldl addR st).2.length ∧ (l.foldl addR st).2.getD k 0 = st.2.getD k 0
  | [], st, k, hk => ⟨hk, rfl⟩
  | x :: l, st, k, hk => by
    obtain ⟨h1, h2⟩ := addR_keeps st x k hk
    obtain ⟨h3, h4⟩ := foldR_keeps l (addR st x) k h1
    exact ⟨h3, h4.trans h2⟩
theorem foldR_sub : ∀ (l : List Int) (st : List Bool × List Int), ∀ y ∈ st.2, y ∈ (l.foldl addR st).2
  | [], _, _, h => h
  | x :: l, st, y, h => foldR_sub l (addR st x) y (addR_sub st x y h)
theorem asc_unique {l m : List Int} (hl : l.Pairwise (· < ·)) (hm : m.Pairwise (· < ·)) (h : ∀ x, x ∈ l ↔ x ∈ m) : l = m := by
  have hA : ∀ (k : List Int), k.Pairwise (· < ·) → Asc2 (k.map fun x => (x, (0 : Int))) := fun k hk i j hij hj => by
    have hj' : j < k.length := by simpa using hj
    have := List.pairwise_iff_getElem.1 hk i j (by omega) hj' hij
    rw [ltE_iff]
    left
    simpa [List.getD_eq_getElem?_getD, hj', show i < k.length by omega] using this
  have e := Canon.unique (ps := m.map fun x => (x, (0 : Int))) (qs := l.map fun x => (x, (0 : Int))) (rs := m.map fun x => (x, (0 : Int))) ⟨hA l hl, fun e => by
    simp only [List.mem_map]
    constructor
    · rintro ⟨x, hx, rfl⟩; exact ⟨x, (h x).1 hx, rfl⟩
    · rintro ⟨x, hx, rfl⟩; exact ⟨x, (h x).2 hx, rfl⟩⟩ ⟨hA m hm, fun e => Iff.rfl⟩
  have := congrArg (List.map Prod.fst) e
  simpa [List.map_map, Function.comp_def] using this
def seenD (st : List Bool × List Int) (x : Int) : Prop := st.1.getD x.toNat false = true
theorem edge_node {N : Int} {ps : List (Int × Int)} (hg : GOk N ps) {x y : Int} (h : (x, y) ∈ ps) : (0 ≤ x ∧ x < N) ∧ 0 ≤ y ∧ y < N := by
  obtain ⟨j, hj, e⟩ := List.getElem_of_mem h
  have := hg.node j hj
  rwa [show ps.getD j (0, 0) = (x, y) by simp [List.getD_eq_getElem?_getD, hj, e]] at this
theorem seen_set {N : Nat} {st : List Bool × List Int} {v x : Int} (hlen : st.1.length = N) (h0 : 0 ≤ v) (h1 : v < N) (x0 : 0 ≤ x) : seenD (st.1.set v.toNat true, st.2) x ↔ x = v ∨ seenD st x := by
  unfold seenD
  show (st.1.set v.toNat true).getD x.toNat false = true ↔ _
  rw [getD_setB _ _ _ (by omega)]
  by_cases e : v.toNat = x.toNat
  · rw [if_pos e]
    have : x = v := by omega
    simp [this]
  · rw [if_neg e]
    have : x ≠ v := fun h => e (by rw [h])
    simp [this]
structure ND (st : List Bool × List Int) : Prop where
  nd : st.2.Nodup
  seen : ∀ x ∈ st.2, seenD st x
theorem ND.add {N : Nat} {st : List Bool × List Int} (h : ND st) (hI : RInv N st) {v : Int} (h0 : 0 ≤ v) (h1 : v < N) : ND (addR st v) := by
  unfold addR
  by_cases e : st.1.getD v.toNat false = true
  · rw [if_pos e]; exact h
  · rw [if_neg e]
    refine ⟨?_, fun x hx => ?_⟩
    · show (st.2 ++ [v]).Nodup
      rw [List.nodup_append]
      exact ⟨h.nd, by simp, fun x hx y hy e2 => e (by have := h.seen x hx; rw [e2, List.mem_singleton.1 hy] at this; exact this)⟩
    · rcases List.mem_append.1 hx with hx | hx
      · exact (seen_set hI.len h0 h1 (hI.node x hx).1).2 (.inr (h.seen x hx))
      · rw [List.mem_singleton.1 hx]; exact (seen_set hI.len h0 h1 h0).2 (.inl rfl)
theorem ND.fold {N : Nat} : ∀ (l : List Int) (st : List Bool × List Int), ND st → RInv N st → (∀ x ∈ l, 0 ≤ x ∧ x < (N : Int)) → ND (l.foldl addR st)
  | [], _, h, _, _ => h
  | x :: l, st, h, hI, hl => ND.fold l _ (h.add hI (hl x (by simp)).1 (hl x (by simp)).2) (hI.add (hl x (by simp)).1 (hl x (by simp)).2) fun y hy => hl y (List.mem_cons_of_mem _ hy)
theorem ND.walk {N : Nat} {ps : List (Int × Int)} (hg : GOk (N : Int) ps) : ∀ (f i : Nat) (st : List Bool × List Int), ND st → RInv N st → ND (walkR ps f i st)
  | 0, _, _, h, _ => h
  | f + 1, i, st, h, hI => by
    by_cases hlt : i < st.2.length
    · rw [walkR_go hlt]
      exact ND.walk hg f (i + 1) _ (ND.fold _ _ h hI fun x hx => succL_node hg x hx) (hI.foldl _ _ fun x hx => succL_node hg x hx)
    · rw [walkR_end hlt]; exact h
theorem ND.start {N : Nat} (zs : List Int) : ∀ k, ND (startR (N : Int) zs k)
  | 0 => ⟨by simp [startR], by simp [startR]⟩
  | k + 1 => by
    have ih := ND.start (N := N) zs k
    unfold startR
    by_cases h : isNd (N : Int) (zs.getD k 0) = true
    · rw [if_pos h]
      have := isNd_iff.1 h
      exact ih.add (RInv.start zs k) this.1 this.2
    · rw [if_neg h]; exact ih
theorem reachL_nodup {N : Nat} {ps : List (Int × Int)} (hg : GOk (N : Int) ps) (zs : List Int) : (reachL (N : Int) ps zs).Nodup := by
  unfold reachL
  rw [(List.mergeSort_perm _ _).nodup_iff]
  unfold reachR
  exact (ND.walk hg _ 0 _ (ND.start zs _) (RInv.start zs _)).nd

structure WT (N : Nat) (ps : List (Int × Int)) (T : Int → Prop) (i : Nat) (st : List Bool × List Int) : Prop where
  inv : RInv N st
  sound : ∀ x ∈ st.2, T x
  mark : ∀ x : Int, 0 ≤ x → x < N → st.1.getD x.toNat false = true → x ∈ st.2
  done : ∀ j, j < i → ∀ x, (st.2.getD j 0, x) ∈ ps → x ∈ st.2
  le : i ≤ st.2.length
theorem WT.add {N : Nat} {ps : List (Int × Int)} {T : Int → Prop} {i : Nat} {st : List Bool × List Int} (h : WT N ps T i st) {x : Int} (h0 : 0 ≤ x) (h1 : x < N) (hx : T x) : WT N ps T i (addR st x) ∧ x ∈ (addR st x).2 := by
  have hinv := h.inv.add h0 h1
  have hlt : x.toNat < st.1.length := by rw [h.inv.len]; omega
  have hd : ∀ j, j < i → ∀ y, ((addR st x).2.getD j 0, y) ∈ ps → y ∈ (addR st x).2 := fun j hj y hy => by
    rw [(addR_keeps st x j (by have := h.le; omega)).2] at hy
    exact addR_sub st x y (h.done j hj y hy)
  have hle : i ≤ (addR st x).2.length := by
    rcases Nat.eq_zero_or_pos i with e | e
    · omega
    · have := (addR_keeps st x (i - 1) (by have := h.le; omega)).1; omega
  unfold addR at hinv hd hle ⊢
  by_cases e : st.1.getD x.toNat false = true
  · rw [if_pos e]
    exact ⟨h, h.mark x h0 h1 e⟩
  · rw [if_neg e] at hinv hd hle ⊢
    refine ⟨⟨hinv, fun y hy => ?_, fun y y0 y1 hy => ?_, hd, hle⟩, by simp⟩
    · rcases List.mem_append.1 hy with hy | hy
      · exact h.sound y hy
      · rw [List.mem_singleton.1 hy]; exact hx
    · show y ∈ st.2 ++ [x]
      by_cases exy : x.toNat = y.toNat
      · have : y = x := by omega
        simp [this]
      · have hy' : (st.1.set x.toNat true).getD y.toNat false = true := hy
        rw [getD_setB _ _ _ hlt, if_neg exy] at hy'
        exact List.mem_append_left _ (h.mark y y0 y1 hy')
theorem WT.fold {N : Nat} {ps : List (Int × Int)} {T : Int → Prop} {i : Nat} : ∀ (l : List Int) (st : List Bool × List Int), WT N ps T i st → (∀ x ∈ l, (0 ≤ x ∧ x < (N : Int)) ∧ T x) → WT N ps T i (l.foldl addR st) ∧ ∀ x ∈ l, x ∈ (l.foldl addR st).2
  | [], _, h, _ => ⟨h, fun x hx => by simp at hx⟩
  | x :: l, st, h, hl => by
    obtain ⟨h1, h2⟩ := h.add (hl x (by simp)).1.1 (hl x (by simp)).1.2 (hl x (by simp)).2
    obtain ⟨h3, h4⟩ := WT.fold l (addR st x) h1 fun y hy => hl y (List.mem_cons_of_mem _ hy)
    refine ⟨h3, fun y hy => ?_⟩
    rcases List.mem_cons.1 hy with rfl | hy
    · exact foldR_sub l _ _ h2
    · exact h4 y hy
theorem WT.walk {N : Nat} {ps : List (Int × Int)} {T : Int → Prop} (hg : GOk N ps) (hT : ∀ u x, T u → (u, x) ∈ ps → T x) : ∀ (f i : Nat) (st : List Bool × List Int), WT N ps T i st → N + 1 ≤ f + i → WT N ps T (walkR ps f i st).2.length (walkR ps f i st) ∧ ∀ y ∈ st.2, y ∈ (walkR ps f i st).2
  | 0, i, st, h, hf => by
    have := h.inv.cnt; have := h.le
    omega
  | f + 1, i, st, h, hf => by
    by_cases hlt : i < st.2.length
    · rw [walkR_go hlt]
      have hm := mem_getD st.2 i hlt
      obtain ⟨h1, h2⟩ := WT.fold (succL ps (st.2.getD i 0)) st h fun x hx => ⟨succL_node hg x hx, hT _ _ (h.sound _ hm) (mem_succL.1 hx)⟩
      have := WT.walk hg hT f (i + 1) (scanR ps st (st.2.getD i 0)) ⟨h1.inv, h1.sound, h1.mark, fun j hj x hx => ?_, ?_⟩ (by omega)
      · exact ⟨this.1, fun y hy => this.2 y (foldR_sub _ _ y hy)⟩
      · by_cases e : j = i
        · subst e
          have hx' : ((scanR ps st (st.2.getD j 0)).2.getD j 0, x) ∈ ps := hx
          rw [show (scanR ps st (st.2.getD j 0)).2.getD j 0 = st.2.getD j 0 from (foldR_keeps _ st j hlt).2] at hx'
          exact h2 x (mem_succL.2 hx')
        · exact h1.done j (by omega) x hx
      · exact (foldR_keeps _ st i hlt).1
    · have hi : i = st.2.length := by have := h.le; omega
      rw [walkR_end hlt, ← hi]
      exact ⟨h, fun _ h => h⟩
def FromN (N : Nat) (ps : List (Int × Int)) (zs : List Int) (x : Int) : Prop := ∃ z ∈ zs, isNd (N : Int) z = true ∧ Rch ps z x
theorem startT {N : Nat} {ps : List (Int × Int)} {zs : List Int} : ∀ k, k ≤ zs.length → WT N ps (FromN N ps zs) 0 (startR (N : Int) zs k) ∧ ∀ z ∈ zs.take k, isNd (N : Int) z = true → z ∈ (startR (N : Int) zs k).2
  | 0, _ => by
    refine ⟨⟨RInv.start zs 0, fun x hx => by simp [startR] at hx, fun x x0 x1 hx => ?_, fun j hj => by omega, Nat.zero_le _⟩, fun z hz => by simp at hz⟩
    have hx' : (List.replicate (N : Int).toNat false).getD x.toNat false = true := hx
    simp only [List.getD_eq_getElem?_getD, List.getElem?_replicate] at hx'
    split at hx' <;> cases hx'
  | k + 1, hk => by
    obtain ⟨h1, h2⟩ := startT (N := N) (ps := ps) (zs := zs) k (by omega)
    have hm : zs.getD k 0 ∈ zs := mem_getD zs k (by omega)
    show WT N ps _ 0 (if isNd (N : Int) (zs.getD k 0) = true then _ else _) ∧ ∀ z ∈ zs.take (k + 1), _ → z ∈ (if isNd (N : Int) (zs.getD k 0) = true then _ else _ : List Bool × List Int).2
    by_cases hn : isNd (N : Int) (zs.getD k 0) = true
    · rw [if_pos hn]
      have hn2 := isNd_iff.1 hn
      obtain ⟨h3, h4⟩ := h1.add hn2.1 hn2.2 ⟨_, hm, hn, .refl⟩
      refine ⟨h3, fun z hz hz2 => ?_⟩
      rcases mem_take_succ (by omega) hz with h | h
      · exact addR_sub _ _ _ (h2 z h hz2)
      · rw [h]; exact h4
    · rw [if_neg hn]
      refine ⟨h1, fun z hz hz2 => ?_⟩
      rcases mem_take_succ (by omega) hz with h | h
      · exact h2 z h hz2
      · rw [h] at hz2; exact absurd hz2 hn
theorem reach_from {N : Nat} {ps : List (Int × Int)} (hg : GOk N ps) (zs : List Int) (w : Int) : w ∈ reachL N ps zs ↔ FromN N ps zs w := by
  unfold reachL reachR
  rw [List.mem_mergeSort, Int.toNat_natCast]
  obtain ⟨h1, h2⟩ := startT (N := N) (ps := ps) (zs := zs) zs.length (Nat.le_refl _)
  obtain ⟨h3, h4⟩ := WT.walk hg (fun u x ⟨z, hz, hn, hr⟩ he => ⟨z, hz, hn, .step hr he⟩) (N + 1) 0 _ h1 (by omega)
  refine ⟨h3.sound w, fun hf => ?_⟩
  obtain ⟨z, hz, hn, hr⟩ := hf
  have hz4 := h4 _ (h2 z (by rw [List.take_length]; exact hz) hn)
  clear hz hn h1 h2
  induction hr with
  | refl => exact hz4
  | step _ he ih =>
    obtain ⟨j, hj, e⟩ := List.getElem_of_mem ih
    refine h3.done j hj _ ?_
    simp only [List.getD_eq_getElem?_getD, List.getElem?_eq_getElem hj, Option.getD_some, e]
    exact he
theorem reachL_asc {N : Nat} {ps : List (Int × Int)} (hg : GOk (N : Int) ps) (zs : List Int) : (reachL (N : Int) ps zs).Pairwise (· < ·) := by
  have hn := reachL_nodup hg zs
  have hs : (reachL (N : Int) ps zs).Pairwise (fun x y => decide (x ≤ y) = true) := by
    unfold reachL
    exact List.pairwise_mergeSort (fun a b c h1 h2 => by simp only [decide_eq_true_eq] at *; omega) (fun a b => by simp only [Bool.or_eq_true, decide_eq_true_eq]; omega) _
  refine List.Pairwise.imp₂ (fun {a b} h1 h2 => ?_) hs hn
  simp only [decide_eq_true_eq] at h1
  have h3 : a ≠ b := h2
  omega

/-- The nodes below k that have a distance. -/
def posI (out : List Int) (k : Nat) : List Int := ((List.range k).filter (fun i => decide (0 ≤ out.getD i 0))).map (fun i : Nat => (i : Int))
theorem posI_succ (out : List Int) (k : Nat) : posI out (k + 1) = posI out k ++ (if 0 ≤ out.getD k 0 then [(k : Int)] else []) := by
  unfold posI
  rw [List.range_succ, List.filter_append, List.map_append]
  congr 1
  by_cases h : 0 ≤ out.getD k 0
  · rw [if_pos h, List.filter_cons_of_pos (by simpa using h)]; rfl
  · rw [if_neg h, List.filter_cons_of_neg (by simpa using h)]; rfl
theorem length_posI (out : List Int) (k : Nat) : (posI out k).length ≤ k := by
  unfold posI
  rw [List.length_map]
  exact Nat.le_trans (List.length_filter_le _ _) (by simp)
theorem posI_asc (out : List Int) (k : Nat) : (posI out k).Pairwise (· < ·) := by
  unfold posI
  rw [List.pairwise_map]
  exact List.Pairwise.imp (fun {a b} h => by omega) (List.pairwise_lt_range.filter _)
theorem mem_posI {out : List Int} {k : Nat} {x : Int} : x ∈ posI out k ↔ 0 ≤ x ∧ x < k ∧ 0 ≤ out.getD x.toNat 0 := by
  unfold posI
  simp only [List.mem_map, List.mem_filter, List.mem_range, decide_eq_true_eq]
  constructor
  · rintro ⟨i, ⟨h1, h2⟩, rfl⟩
    exact ⟨by omega, by omega, by rw [Int.toNat_natCast]; exact h2⟩
  · rintro ⟨h0, h1, h2⟩
    exact ⟨x.toNat, ⟨by omega, h2⟩, by omega⟩
theorem rch_node {N : Nat} {ps : List (Int × Int)} (hg : GOk (N : Int) ps) {z x : Int} (hn : isNd (N : Int) z = true) (h : Rch ps z x) : 0 ≤ x ∧ x < N := by
  cases h with
  | refl => exact isNd_iff.1 hn
  | step _ he => exact succL_node hg x (mem_succL.2 he)
theorem DistOf.from_iff {N : Nat} {ps : List (Int × Int)} {zs out : List Int} (h : DistOf N ps zs out) {x : Int} (h0 : 0 ≤ x) (h1 : x < N) : 0 ≤ out.getD x.toNat 0 ↔ FromN N ps zs x := by
  constructor
  · intro hx
    obtain ⟨z, hz, hn, hw⟩ := h.path x h0 h1 hx
    exact ⟨z, hz, hn, hw.rch⟩
  · rintro ⟨z, hz, hn, hr⟩
    obtain ⟨m, hw⟩ := hr.wk
    exact (h.least z hz hn m x hw).1
theorem reach_dist {N : Nat} {ps : List (Int × Int)} {zs out : List Int} (hg : GOk (N : Int) ps) (h : DistOf N ps zs out) : posI out N = reachL (N : Int) ps zs := by
  refine asc_unique (posI_asc _ _) (reachL_asc hg zs) fun x => ?_
  rw [mem_posI, reach_from hg]
  constructor
  · rintro ⟨h0, h1, h2⟩
    exact (h.from_iff h0 h1).1 h2
  · intro hf
    obtain ⟨z, hz, hn, hr⟩ := hf
    obtain ⟨h0, h1⟩ := rch_node hg hn hr
    exact ⟨h0, h1, (h.from_iff h0 h1).2 ⟨z, hz, hn, hr⟩⟩
theorem check_at (N : Int) (a : Option Addr) (n c : Nat) (ps : List (Int × Int)) (k : Int) (hk : gchk N ps = k) (w : World) (hl : ps.length = n) (hn : n ≤ maxLen) (hE : Pairs w a ps) :
    Calls Try.prog 28 #[.agg #[.int .i64 N, .slice a n c]] w fun e w' => e = .returned (.int .i64 k) ∧ Below w.heap.size w w' := by
  subst hl hk; exact rcheck_any N a c ps w hn hE
theorem rdist_at (N : Nat) (a : Option Addr) (n c : Nat) (ps : List (Int × Int)) (hl : ps.length = n) (b : Option Addr) (m d : Nat) (zs : List Int) (hzl : zs.length = m) (w : World) (hE : Edg w a c ps) (hg : GOk (N : Int) ps) (hz : Ints w b zs) (hm : m ≤ maxLen) :
    Calls Try.prog 27 #[.agg #[.int .i64 (N : Int), .slice a n c], .slice b m d] w (DistEnd w N ps zs) := rdist_good N a n c ps hl b m d zs hzl w hE.pairs hg hz hm

set_option maxHeartbeats 4000000 in
set_option maxRecDepth 100000 in
theorem rreach_good (N : Nat) (a : Option Addr) (n c : Nat) (ps : List (Int × Int)) (hl : ps.length = n) (b : Option Addr) (m d : Nat) (zs : List Int) (hzl : zs.length = m) (w : World) (hE : Edg w a c ps) (hok : gchk (N : Int) ps = 0) (hz : Ints w b zs) (hm : m ≤ maxLen) :
    Calls Try.prog 41 #[.agg #[.int .i64 (N : Int), .slice a n c], .slice b m d] w fun e w' => ∃ r, e = .returned r ∧ Own w' w.heap.size r (reachL (N : Int) ps zs) ∧ Below w.heap.size w w' := by
  have hg := gchk_ok hok
  have hlen := hg.len
  have hN := hg.hi
  rw [hl] at hlen
  obtain ⟨w0, hw0⟩ : ∃ w0, w.alloc (Obj.cells #[Value.int .i64 (N : Int), Value.slice a n c] 24) = w0 := ⟨_, rfl⟩
  have hs0 : w.heap.size < w0.heap.size := by rw [← hw0]; simp
  have q0 : w0.cell? ⟨w.heap.size, 0, none⟩ = some (.int .i64 (N : Int)) := by rw [← hw0]; simp [go_sem]
  have q1 : w0.cell? ⟨w.heap.size, 1, none⟩ = some (.slice a n c) := by rw [← hw0]; simp [go_sem]
  have HB0 : Hid (Below w.heap.size w w0) := by show Below _ _ _; rw [← hw0]; exact (Below.refl w.heap.size w).alloc (Nat.le_refl _) _
  have HE := Lib.hid hE
  have Hl := Lib.hid hl
  have Hg := Lib.hid hg
  have Hok := Lib.hid hok
  have Hw0 := Lib.hid hw0
  have Hz := Lib.hid hz
  have Hzl := Lib.hid hzl
  have Hm := Lib.hid hm
  clear hE hl hg hw0 hz hzl hok hm
  go_enter Try.func41, Try.ntmps41
  go_wp2_with fail
  rw [Hw0.out]
  refine (check_at (N : Int) a n c ps 0 Hok.out w0 Hl.out (by unfold maxLen; omega) (HE.out.below HB0.out (Nat.le_refl _)).pairs).mono ?_
  rintro e w1 ⟨rfl, hb1⟩
  have hs1 : w.heap.size < w1.heap.size := by have := hb1.size; omega
  have c0 := (hb1.cell (p := ⟨w.heap.size, 0, none⟩) hs0).trans q0
  have c1 := (hb1.cell (p := ⟨w.heap.size, 1, none⟩) hs0).trans q1
  have HB1 := Lib.hid (HB0.out.trans (hb1.mono (Nat.le_of_lt hs0)))
  clear hb1 q0 q1
  go_wp2_with fail
  refine (rdist_at N a n c ps Hl.out b m d zs Hzl.out w1 (HE.out.below HB1.out (Nat.le_refl _)) Hg.out (Hz.out.below HB1.out (Nat.le_refl _)) Hm.out).mono ?_
  rintro e w2 ⟨S, out, rfl, hrow, hdist, hb2⟩
  have hs2 : w.heap.size < w2.heap.size := by have := hb2.size; omega
  have hSlt := (World.ownsRow.lt hrow S rfl).2
  have Hrow := Lib.hid hrow
  have Hol : Hid (out.length = N) := hdist.len
  have Hfin : Hid (posI out N = reachL (N : Int) ps zs) := reach_dist Hg.out hdist
  have HB2 := Lib.hid (HB1.out.trans (hb2.mono (Nat.le_of_lt hs1)))
  clear hb2 c0 c1 hrow hdist
  go_wp2
  go_loopw [5, 7] (fun vo i W => ∃ k : Nat, k ≤ N ∧ i = .int .i64 k ∧ Own W w2.heap.size vo (posI out k) ∧ Below w2.heap.size w2 W) (fun _ i _ => N - (intOf i).toNat)
  case atStart => exact ⟨0, Nat.zero_le _, rfl, Own.nil _ _, Below.refl _ _⟩
  case round =>
    obtain ⟨k, hk, rfl, ho, hb⟩ := hrel
    have hsz := hb.size
    have Ho := Lib.hid ho
    have Hb := Lib.hid hb
    have hpl := length_posI out k
    by_cases hlt : k < N
    · have cS := (hb.cell (p := ⟨S, k, none⟩) hSlt).trans (Hrow.out.cell (i := k) (by rw [Hol.out]; exact hlt))
      obtain ⟨o, hoo⟩ : ∃ o, out.getD k 0 = o := ⟨_, rfl⟩
      rw [hoo] at cS
      by_cases hge : 0 ≤ o
      · have hpk : Hid (posI out (k + 1) = posI out k ++ [(k : Int)]) := by show _ = _; rw [posI_succ, hoo, if_pos hge]
        clear ho hb hoo
        go_wp2_with (at_builtin; refine wpList_append_lie rfl _ _ rfl w2.heap.size _ (posI out k) _ rfl rfl (Own.alloc Ho.out _) wr.heap.size (k : Int) rfl (cell_at _ _ _ _ (by simp)) (by omega) (by simp; omega) ?_)
        intro g5 cap5 w5 ho5 hg5 hat5
        rw [← hpk.out] at ho5
        have Ho5 := Lib.hid ho5
        have Hb5 := Lib.hid ((Hb.out.alloc hsz _).grown hg5 (by simp; omega) (fun r hr => (World.ownsRow.lt Ho.out r hr).1))
        clear ho5 hg5 hat5
        go_wp2
        go_roundw
        case rel => exact ⟨k + 1, by omega, by go_num, Ho5.out, Hb5.out⟩
        case measure => simp [intOf]; omega
      · have hpk : Hid (posI out (k + 1) = posI out k) := by show _ = _; rw [posI_succ, hoo, if_neg hge, List.append_nil]
        have hge2 : o < 0 := by omega
        clear ho hb hoo
        go_wp2
        go_roundw
        case rel => exact ⟨k + 1, by omega, by go_num, by rw [hpk.out]; exact Ho.out, Hb.out⟩
        case measure => simp [intOf]; omega
    · obtain rfl : N = k := by omega
      clear ho hb
      go_wp2
      go_ret
      exact ⟨_, rfl, by rw [← Hfin.out]; exact Ho.out.mono (Nat.le_of_lt hs2), HB2.out.trans (Hb.out.mono (Nat.le_of_lt hs2))⟩

def succTo (ps : List (Int × Int)) (v : Int) (k : Nat) : List Int := succL (ps.take k) v
theorem succTo_succ {ps : List (Int × Int)} {v : Int} {k : Nat} (h : k < ps.length) : succTo ps v (k + 1) = if (ps.getD k (0, 0)).1 = v then succTo ps v k ++ [(ps.getD k (0, 0)).2] else succTo ps v k := by
  unfold succTo succL
  have e : ps.getD k (0, 0) = ps[k] := by simp [List.getD_eq_getElem?_getD, h]
  rw [List.take_succ_eq_append_getElem h, List.filter_append, List.map_append, e]
  by_cases hv : ps[k].1 = v
  · rw [if_pos hv, List.filter_cons_of_pos (by simp [hv])]; rfl
  · rw [if_neg hv, List.filter_cons_of_neg (by simp [hv])]; simp
theorem succTo_all (ps : List (Int × Int)) (v : Int) : succTo ps v ps.length = succL ps v := by unfold succTo; rw [List.take_length]
theorem length_succTo (ps : List (Int × Int)) (v : Int) (k : Nat) : (succTo ps v k).length ≤ ps.length := by
  unfold succTo succL
  rw [List.length_map]
  exact Nat.le_trans (List.length_filter_le _ _) (by rw [List.length_take]; omega)

set_option maxHeartbeats 1600000 in
theorem rsucc_any (N : Int) (a : Option Addr) (c : Nat) (ps : List (Int × Int)) (v : Int) (w : World) (hn : ps.length ≤ 100000) (hE : Pairs w a ps) :
    Calls Try.prog 40 #[.agg #[.int .i64 N, .slice a ps.length c], .int .i64 v] w fun e w' => ∃ r, e = .returned r ∧ Own w' w.heap.size r (if nodeB N ps v = true then succL ps v else []) ∧ Below w.heap.size w w' := by
  obtain ⟨n, hl⟩ : ∃ n, ps.length = n := ⟨_, rfl⟩
  obtain ⟨k, hk⟩ : ∃ k, nodeB N ps v = k := ⟨_, rfl⟩
  have hb0 := (Below.refl w.heap.size w).alloc (Nat.le_refl _) (Obj.cells #[Value.int .i64 N, Value.slice a n c] 24)
  have hck : Calls Try.prog 26 #[.agg #[.int .i64 N, .slice a n c], .int .i64 v] (w.alloc (Obj.cells #[Value.int .i64 N, Value.slice a n c] 24)) fun e w' => e = .returned (.bool k) ∧ Below (w.heap.size + 1) (w.alloc (Obj.cells #[Value.int .i64 N, Value.slice a n c] 24)) w' := by
    have := rnode_any N a c ps v (w.alloc (Obj.cells #[Value.int .i64 N, Value.slice a n c] 24)) (by unfold maxLen; omega) (hE.below hb0 (Nat.le_refl _))
    rw [hk, hl, World.size_alloc] at this
    exact this
  have Hb0 := Lib.hid hb0
  have Hck := Lib.hid hck
  have HE := Lib.hid hE
  have Hl := Lib.hid hl
  have Hfin : Hid (succTo ps v n = succL ps v) := by show _ = _; rw [← hl]; exact succTo_all ps v
  rw [hk]
  rw [hl] at hn ⊢
  clear hck hb0 hE hl hk
  cases k with
  | false =>
    rw [if_neg (by decide)]
    go_enter Try.func40, Try.ntmps40
    go_wp2_with (go_at_call 26; refine Hck.out.mono ?_; rintro e w1 ⟨rfl, hb1⟩; have Hb1 := Lib.hid hb1; clear hb1)
    go_ret
    exact ⟨_, rfl, Own.nil _ _, Hb0.out.trans (Hb1.out.mono (by omega))⟩
  | true =>
    rw [if_pos rfl]
    go_enter Try.func40, Try.ntmps40
    go_wp2_with fail
    refine Hck.out.mono ?_
    rintro e w1 ⟨rfl, hb1⟩
    have hz1 : w.heap.size + 1 ≤ w1.heap.size := by have := hb1.size; simpa using this
    have g1 := (hb1.cell (p := ⟨w.heap.size, 1, none⟩) (by simp)).trans (show _ = some (Value.slice a n c) by simp)
    have Hb1 := Lib.hid (Hb0.out.trans (hb1.mono (by omega)))
    clear hb1
    go_wp2
    go_loopw [5, 6] (fun u i wr => ∃ k : Nat, k ≤ n ∧ i = .int .i64 k ∧ Own wr w1.heap.size u (succTo ps v k) ∧ Below w1.heap.size w1 wr) (fun _ i _ => n - (intOf i).toNat)
    case atStart => exact ⟨0, Nat.zero_le _, rfl, Own.nil _ _, Below.refl _ _⟩
    case round =>
      obtain ⟨k, hk, rfl, hown, hb⟩ := hrel
      have Hown := Lib.hid hown
      have Hb := Lib.hid hb
      have hsz := hb.size
      have h1 := (hb.cell (p := ⟨w.heap.size, 1, none⟩) (by show w.heap.size < _; omega)).trans g1
      by_cases hlt : k < n
      · obtain ⟨b, off, rfl, hcell⟩ := (HE.out.below (Hb1.out.trans (Hb.out.mono (by omega))) (Nat.le_refl _)) (by rw [Hl.out]; omega)
        obtain ⟨hcx, hcy⟩ := hcell k (by rw [Hl.out]; exact hlt)
        have hps := succTo_succ (v := v) (show k < ps.length by rw [Hl.out]; exact hlt)
        have hpl := length_succTo ps v k
        rw [Hl.out] at hpl
        obtain ⟨⟨x, y⟩, he⟩ : ∃ e, ps.getD k (0, 0) = e := ⟨_, rfl⟩
        rw [he] at hcx hcy hps
        have Hps := Lib.hid hps
        clear he hcell hown hb hps
        by_cases hy : x = v
        · go_wp2_with (at_builtin; refine wpList_append_int rfl _ _ rfl w1.heap.size _ _ rfl (Own.alloc Hown.out _) _ y rfl (by simp [go_sem]) (by omega) (by simp; omega) ?_; intro v' w5 hown5 hg5; have Hown5 := Lib.hid hown5; have Hb5 := Lib.hid ((Hb.out.alloc hsz _).grown hg5 (by simp; omega) (fun r hr => (World.ownsRow.lt Hown.out r hr).1)); clear hown5 hg5)
          go_roundw
          case rel => exact ⟨k + 1, by omega, by go_num, by rw [Hps.out, if_pos hy]; exact Hown5.out, Hb5.out⟩
          case measure => simp [intOf]; omega
        · go_wp2
          go_roundw
          case rel => exact ⟨k + 1, by omega, by go_num, by rw [Hps.out, if_neg hy]; exact Hown.out, Hb.out⟩
          case measure => simp [intOf]; omega
      · obtain rfl : k = n := by omega
        go_wp2
        go_ret
        exact ⟨_, rfl, by rw [← Hfin.out]; exact Own.mono Hown.out (by omega), Hb1.out.trans (Hb.out.mono (by omega))⟩
end Go.Proofs.Ytopbbihbpalnlaa.D

namespace Go.Proofs.Ytopbbihbpalnlaa.D
open Go.RowKit Go.Shelf Go.WideShapes
set_option linter.unusedVariables false
set_option maxHeartbeats 1000000 in
theorem succ_bad (N : Int) (a : Option Addr) (c : Nat) (ps : List (Int × Int)) (v : Int) (w : World) (hn : ps.length ≤ maxLen) (hE : Pairs w a ps) (hok : gchk N ps ≠ 0) :
    Calls Try.prog 39 #[.agg #[.int .i64 N, .slice a ps.length c], .int .i64 v] w fun e w' => e = .returned (.slice none 0 0) ∧ Below w.heap.size w w' := by
  obtain ⟨n, hl⟩ : ∃ n, ps.length = n := ⟨_, rfl⟩
  obtain ⟨k, hk⟩ : ∃ k, gchk N ps = k := ⟨_, rfl⟩
  have hb0 := (Below.refl w.heap.size w).alloc (Nat.le_refl _) (Obj.cells #[Value.int .i64 N, Value.slice a n c] 24)
  have hck : Calls Try.prog 29 #[.agg #[.int .i64 N, .slice a n c]] (w.alloc (Obj.cells #[Value.int .i64 N, Value.slice a n c] 24)) fun e w' => e = .returned (.int .i64 k) ∧ Below (w.heap.size + 1) (w.alloc (Obj.cells #[Value.int .i64 N, Value.slice a n c] 24)) w' := by
    have := check_any N a c ps (w.alloc (Obj.cells #[Value.int .i64 N, Value.slice a n c] 24)) hn (hE.below hb0 (Nat.le_refl _))
    rw [hk, hl, World.size_alloc] at this
    exact this
  have Hb0 := Lib.hid hb0
  have Hck := Lib.hid hck
  rw [hk] at hok
  rw [hl]
  clear hck hb0 hE hl hk hn
  go_enter Try.func39, Try.ntmps39
  go_wp2_with ((go_at_call 29; refine Hck.out.mono ?_; rintro e w1 ⟨rfl, hb1⟩; have Hb1 := Lib.hid hb1; clear hb1))
  go_ret
  exact ⟨rfl, Hb0.out.trans (Hb1.out.mono (by omega))⟩

set_option maxHeartbeats 1000000 in
theorem reach_bad (N : Int) (a : Option Addr) (c : Nat) (ps : List (Int × Int)) (b : Option Addr) (m d : Nat) (w : World) (hn : ps.length ≤ maxLen) (hE : Pairs w a ps) (hok : gchk N ps ≠ 0) :
    Calls Try.prog 38 #[.agg #[.int .i64 N, .slice a ps.length c], .slice b m d] w fun e w' => e = .returned (.slice none 0 0) ∧ Below w.heap.size w w' := by
  obtain ⟨n, hl⟩ : ∃ n, ps.length = n := ⟨_, rfl⟩
  obtain ⟨k, hk⟩ : ∃ k, gchk N ps = k := ⟨_, rfl⟩
  have hb0 := (Below.refl w.heap.size w).alloc (Nat.le_refl _) (Obj.cells #[Value.int .i64 N, Value.slice a n c] 24)
  have hck : Calls Try.prog 29 #[.agg #[.int .i64 N, .slice a n c]] (w.alloc (Obj.cells #[Value.int .i64 N, Value.slice a n c] 24)) fun e w' => e = .returned (.int .i64 k) ∧ Below (w.heap.size + 1) (w.alloc (Obj.cells #[Value.int .i64 N, Value.slice a n c] 24)) w' := by
    have := check_any N a c ps (w.alloc (Obj.cells #[Value.int .i64 N, Value.slice a n c] 24)) hn (hE.below hb0 (Nat.le_refl _))
    rw [hk, hl, World.size_alloc] at this
    exact this
  have Hb0 := Lib.hid hb0
  have Hck := Lib.hid hck
  rw [hk] at hok
  rw [hl]
  clear hck hb0 hE hl hk hn
  go_enter Try.func38, Try.ntmps38
  go_wp2_with ((go_at_call 29; refine Hck.out.mono ?_; rintro e w1 ⟨rfl, hb1⟩; have Hb1 := Lib.hid hb1; clear hb1))
  go_ret
  exact ⟨rfl, Hb0.out.trans (Hb1.out.mono (by omega))⟩

set_option maxHeartbeats 1000000 in
theorem rreach_bad (N : Int) (a : Option Addr) (n c : Nat) (ps : List (Int × Int)) (hl : ps.length = n) (b : Option Addr) (m d : Nat) (w : World) (hn : n ≤ maxLen) (hE : Pairs w a ps) (hok : gchk N ps ≠ 0) :
    Calls Try.prog 41 #[.agg #[.int .i64 N, .slice a n c], .slice b m d] w fun e w' => e = .returned (.slice none 0 0) ∧ Below w.heap.size w w' := by
  obtain ⟨k, hk⟩ : ∃ k, gchk N ps = k := ⟨_, rfl⟩
  have hb0 := (Below.refl w.heap.size w).alloc (Nat.le_refl _) (Obj.cells #[Value.int .i64 N, Value.slice a n c] 24)
  have hck := check_at N a n c ps k hk _ hl hn (hE.below hb0 (Nat.le_refl _))
  rw [hk] at hok
  have e0 : (k != 0) = true := by rw [bne_iff_ne]; exact hok
  have Hck := Lib.hid hck
  have Hb0 := Lib.hid hb0
  clear hck hb0 hE hl hk
  go_enter Try.func41, Try.ntmps41
  go_wp2_with fail
  refine Hck.out.mono ?_
  rintro e w1 ⟨rfl, hb1⟩
  have Hb1 := Lib.hid (Hb0.out.trans (hb1.mono (by simp)))
  clear hb1
  go_wp2
  go_ret
  exact ⟨rfl, Hb1.out⟩
end Go.Proofs.Ytopbbihbpalnlaa.D
namespace Go.Proofs.Ytopbbihbpalnlaa
open Go.RowKit Go.Shelf
set_option linter.unusedVariables false
/-- The nodes from which Recursive goes on, and those that it reaches: the same for the program and the definition. -/
def sA (N : Int) (ps : List (Int × Int)) (v : Int) : List Int := if gchk N ps = 0 then succL ps v else []
def rA (N : Int) (ps : List (Int × Int)) (v : Int) : List Int := if gchk N ps = 0 then reachL N ps (sA N ps v) else []
theorem sA_len (N : Int) (ps : List (Int × Int)) (v : Int) : (sA N ps v).length ≤ 32768 := by
  unfold sA
  by_cases h : gchk N ps = 0
  · rw [if_pos h]
    have := (gchk_ok h).len
    have h2 : (succL ps v).length ≤ ps.length := by unfold succL; rw [List.length_map]; exact List.length_filter_le _ _
    omega
  · rw [if_neg h]; exact Nat.zero_le _
theorem rA_len (N : Int) (ps : List (Int × Int)) (v : Int) : (rA N ps v).length ≤ 8192 := by
  unfold rA
  by_cases h : gchk N ps = 0
  · rw [if_pos h]
    have hg := gchk_ok h
    obtain ⟨N, rfl⟩ : ∃ m : Nat, N = (m : Int) := ⟨N.toNat, by have := hg.lo; omega⟩
    have := hg.hi
    have h3 := D.reachL_nodup hg (sA (N : Int) ps v)
    have h4 := nodupLe (N := N) (l := (reachL (N : Int) ps (sA (N : Int) ps v)).map Int.toNat) (by
      unfold List.Nodup
      rw [List.pairwise_map]
      refine List.Pairwise.imp_of_mem ?_ h3
      intro x y hx hy hne e
      obtain ⟨z, _, hn, hr⟩ := (D.reach_from hg _ x).mp hx
      obtain ⟨z2, _, hn2, hr2⟩ := (D.reach_from hg _ y).mp hy
      have := D.rch_node hg hn hr
      have := D.rch_node hg hn2 hr2
      exact hne (by omega)) (fun x hx => by
      obtain ⟨y, hy, rfl⟩ := List.mem_map.mp hx
      obtain ⟨z, _, hn, hr⟩ := (D.reach_from hg _ y).mp hy
      have := D.rch_node hg hn hr
      omega)
    rw [List.length_map] at h4
    omega
  · rw [if_neg h]; exact Nat.zero_le _
theorem succ_at (N : Int) (a : Option Addr) (n c : Nat) (ps : List (Int × Int)) (hl : ps.length = n) (hn : n ≤ maxLen) (v : Int) (s : List Int) (hs : sA N ps v = s) (m : Nat) (hm : s.length = m) (w : World) (hE : Edg w a c ps) :
    Calls Try.prog 39 #[.agg #[.int .i64 N, .slice a n c], .int .i64 v] w fun e w' => ∃ b d, e = .returned (.slice b m d) ∧ Ints w' b s ∧ Below w.heap.size w w' := by
  subst hl
  unfold sA at hs
  by_cases h : gchk N ps = 0
  · rw [if_pos h] at hs
    refine (succ_good N a c ps v w hE h).mono ?_
    rintro e w' ⟨u, rfl, ho, hb⟩
    rw [hs] at ho
    obtain ⟨b, d, rfl, hi⟩ := ho.shape
    exact ⟨b, d, by rw [hm], hi, hb⟩
  · rw [if_neg h] at hs
    subst hs
    subst hm
    refine (D.succ_bad N a c ps v w hn hE.pairs h).mono ?_
    rintro e w' ⟨rfl, hb⟩
    exact ⟨none, 0, rfl, fun h => absurd h (by simp), hb⟩
theorem reach_at (N : Int) (a : Option Addr) (n c : Nat) (ps : List (Int × Int)) (hl : ps.length = n) (hn : n ≤ maxLen) (v : Int) (s : List Int) (hs : sA N ps v = s) (m : Nat) (hm : s.length = m) (r : List Int) (hr : rA N ps v = r) (q : Nat) (hq : r.length = q) (b : Option Addr) (d : Nat) (w : World) (hE : Edg w a c ps) (hi : Ints w b s) :
    Calls Try.prog 38 #[.agg #[.int .i64 N, .slice a n c], .slice b m d] w fun e w' => ∃ b2 d2, e = .returned (.slice b2 q d2) ∧ Ints w' b2 r ∧ Below w.heap.size w w' := by
  subst hl
  have hsl := sA_len N ps v
  rw [hs, hm] at hsl
  unfold rA at hr
  by_cases h : gchk N ps = 0
  · have hg := gchk_ok h
    obtain ⟨N, rfl⟩ : ∃ m : Nat, N = (m : Int) := ⟨N.toNat, by have := hg.lo; omega⟩
    rw [if_pos h, hs] at hr
    have := reach_good N a c ps b d s w hE h hi (by unfold maxLen; omega)
    rw [hm] at this
    refine this.mono ?_
    rintro e w' ⟨u, rfl, ho, hb⟩
    rw [hr] at ho
    obtain ⟨b2, d2, rfl, hi2⟩ := ho.shape
    exact ⟨b2, d2, by rw [hq], hi2, hb⟩
  · rw [if_neg h] at hr
    subst hr
    subst hq
    refine (D.reach_bad N a c ps b m d w hn hE.pairs h).mono ?_
    rintro e w' ⟨rfl, hb⟩
    exact ⟨none, 0, rfl, fun h => absurd h (by simp), hb⟩
set_option maxRecDepth 100000 in
set_option maxHeartbeats 1000000 in
theorem rec_any (N : Int) (a : Option Addr) (n c : Nat) (ps : List (Int × Int)) (v : Int) (w : World) (hl : ps.length = n) (hn : n ≤ maxLen) (hE : Edg w a c ps) (t : Bool) (ht : decide (v ∈ rA N ps v) = t) :
    Calls Try.prog 22 #[.agg #[.int .i64 N, .slice a n c], .int .i64 v] w fun e w' => e = .returned (.bool t) ∧ Below w.heap.size w w' := by
  obtain ⟨w1, hw1⟩ : ∃ w1, w.alloc (Obj.cells #[Value.int .i64 N, Value.slice a n c] 24) = w1 := ⟨_, rfl⟩
  have hb0 : Below w.heap.size w w1 := by rw [← hw1]; exact (Below.refl w.heap.size w).alloc (Nat.le_refl _) _
  have g0 : w1.cell? ⟨w.heap.size, 0, none⟩ = some (.int .i64 N) := by rw [← hw1]; simp [go_sem]
  have g1 : w1.cell? ⟨w.heap.size, 1, none⟩ = some (.slice a n c) := by rw [← hw1]; simp [go_sem]
  have hS0 : w1.cell? ⟨w.heap.size, 0, none⟩ = some (.int .i64 N) ∧ w1.cell? ⟨w.heap.size, 1, none⟩ = some (.slice a n c) ∧ Below w.heap.size w w1 := ⟨g0, g1, hb0⟩
  have hS1 : w1.drew.cell? ⟨w.heap.size, 0, none⟩ = some (.int .i64 N) ∧ w1.drew.cell? ⟨w.heap.size, 1, none⟩ = some (.slice a n c) ∧ Below w.heap.size w w1.drew := ⟨g0, g1, hb0.drew⟩
  have hrl := rA_len N ps v
  obtain ⟨s, hs2⟩ : ∃ s, sA N ps v = s := ⟨_, rfl⟩
  obtain ⟨r, hr2⟩ : ∃ r, rA N ps v = r := ⟨_, rfl⟩
  rw [hr2] at hrl ht
  obtain ⟨ms, hms⟩ : ∃ m, s.length = m := ⟨_, rfl⟩
  obtain ⟨mr, hmr⟩ : ∃ m, r.length = m := ⟨_, rfl⟩
  have hsu : ∀ X, Below w.heap.size w X → Calls Try.prog 39 #[.agg #[.int .i64 N, .slice a n c], .int .i64 v] X fun e w' => ∃ b d, e = .returned (.slice b ms d) ∧ Ints w' b s ∧ Below X.heap.size X w' := fun X hX => succ_at N a n c ps hl hn v s hs2 ms hms X (hE.below hX (Nat.le_refl _))
  have hre : ∀ X b d, Below w.heap.size w X → Ints X b s → Calls Try.prog 38 #[.agg #[.int .i64 N, .slice a n c], .slice b ms d] X fun e w' => ∃ b2 d2, e = .returned (.slice b2 mr d2) ∧ Ints w' b2 r ∧ Below X.heap.size X w' := fun X b d hX hi => reach_at N a n c ps hl hn v s hs2 ms hms r hr2 mr hmr b d X (hE.below hX (Nat.le_refl _)) hi
  have Hsu := Lib.hid hsu
  have Hre := Lib.hid hre
  have Hw1 := Lib.hid hw1
  have Hmr := Lib.hid hmr
  have Ht := Lib.hid ht
  have hmr8 : mr ≤ 100000 := by omega
  clear hsu hre hw1 hmr hms hs2 hr2 hE hl hb0 ht hrl
  go_enter Try.func22, Try.ntmps22
  go_wp2_with fail
  rw [Hw1.out]
  go_region_held3 (fun X => X.cell? ⟨w.heap.size, 0, none⟩ = some (.int .i64 N) ∧ X.cell? ⟨w.heap.size, 1, none⟩ = some (.slice a n c) ∧ Below w.heap.size w X)
    (first
      | (with_reducible assumption)
      | fail)
    (first
      | (go_at_call 39; (with_reducible refine Calls.mono (Hsu.out _ (by exact (by assumption : _ ∧ _ ∧ _).2.2)) ?_); rintro e wA ⟨b1, d1, rfl, hi1, hbA⟩; have hSA := keepR2 (by assumption) rfl hbA)
      | (go_at_call 38; (with_reducible refine Calls.mono (Hre.out _ b1 d1 (by exact hSA.2.2) (by first | exact hi1 | exact hi1.drewN 1)) ?_); rintro e wB ⟨b2, d2, rfl, hi2, hbB⟩; have hSB := keepR2 hSA rfl hbB)
      | (go_at_call 37; (with_reducible refine Calls.mono (has_any b2 mr d2 r v Hmr.out _ hi2 hmr8) ?_); rintro e wC ⟨rfl, k, rfl⟩; rw [Ht.out]; have hSC : (wB.drewN k).cell? ⟨w.heap.size, 0, none⟩ = some (.int .i64 N) ∧ (wB.drewN k).cell? ⟨w.heap.size, 1, none⟩ = some (.slice a n c) ∧ Below w.heap.size w (wB.drewN k) := ⟨hSB.1, hSB.2.1, ⟨hSB.2.2.os, hSB.2.2.tape, hSB.2.2.output, hSB.2.2.size, hSB.2.2.block⟩⟩))
  all_goals
    go_wp2
    go_ret
    exact ⟨rfl, hSC.2.2⟩
theorem rsucc_at (N : Int) (a : Option Addr) (n c : Nat) (ps : List (Int × Int)) (hl : ps.length = n) (hn : n ≤ 100000) (v : Int) (s : List Int) (hs : sA N ps v = s) (m : Nat) (hm : s.length = m) (w : World) (hE : Pairs w a ps) :
    Calls Try.prog 40 #[.agg #[.int .i64 N, .slice a n c], .int .i64 v] w fun e w' => ∃ b d, e = .returned (.slice b m d) ∧ Ints w' b s ∧ Below w.heap.size w w' := by
  subst hl
  refine (D.rsucc_any N a c ps v w hn hE).mono ?_
  rintro e w' ⟨u, rfl, ho, hb⟩
  have he : (if D.nodeB N ps v = true then succL ps v else []) = s := by
    rw [← hs]
    unfold sA D.nodeB
    by_cases h : gchk N ps = 0
    · rw [if_pos h]
      by_cases hv : isNd N v = true
      · rw [if_pos (by rw [hv]; simp [h])]
      · have hnil : succL ps v = [] := succL_none _ _ fun t ht e => by
          have := ((gchk_ok h).node t ht).1
          rw [e] at this
          exact hv (isNd_iff.2 this)
        rw [hnil]
        simp
    · rw [if_neg h, if_neg (by simp [h])]
  rw [he] at ho
  obtain ⟨b, d, rfl, hi⟩ := ho.shape
  exact ⟨b, d, by rw [hm], hi, hb⟩
theorem rreach_at (N : Int) (a : Option Addr) (n c : Nat) (ps : List (Int × Int)) (hl : ps.length = n) (hn : n ≤ maxLen) (v : Int) (s : List Int) (hs : sA N ps v = s) (m : Nat) (hm : s.length = m) (r : List Int) (hr : rA N ps v = r) (q : Nat) (hq : r.length = q) (b : Option Addr) (d : Nat) (w : World) (hE : Edg w a c ps) (hi : Ints w b s) :
    Calls Try.prog 41 #[.agg #[.int .i64 N, .slice a n c], .slice b m d] w fun e w' => ∃ b2 d2, e = .returned (.slice b2 q d2) ∧ Ints w' b2 r ∧ Below w.heap.size w w' := by
  have hsl := sA_len N ps v
  rw [hs, hm] at hsl
  unfold rA at hr
  by_cases h : gchk N ps = 0
  · have hg := gchk_ok h
    obtain ⟨N, rfl⟩ : ∃ m : Nat, N = (m : Int) := ⟨N.toNat, by have := hg.lo; omega⟩
    rw [if_pos h, hs] at hr
    refine (D.rreach_good N a n c ps hl b m d s hm w hE h hi (by unfold maxLen; omega)).mono ?_
    rintro e w' ⟨u, rfl, ho, hb⟩
    rw [hr] at ho
    obtain ⟨b2, d2, rfl, hi2⟩ := ho.shape
    exact ⟨b2, d2, by rw [hq], hi2, hb⟩
  · rw [if_neg h] at hr
    subst hr
    subst hq
    refine (D.rreach_bad N a n c ps hl b m d w hn hE.pairs h).mono ?_
    rintro e w' ⟨rfl, hb⟩
    exact ⟨none, 0, rfl, fun h => absurd h (by simp), hb⟩
set_option maxRecDepth 100000 in
set_option maxHeartbeats 2000000 in
theorem rrec_any (N : Int) (a : Option Addr) (n c : Nat) (ps : List (Int × Int)) (v : Int) (w : World) (hl : ps.length = n) (hn : n ≤ 100000) (hE : Edg w a c ps) (t : Bool) (ht : decide (v ∈ rA N ps v) = t) :
    Calls Try.prog 23 #[.agg #[.int .i64 N, .slice a n c], .int .i64 v] w fun e w' => e = .returned (.bool t) ∧ Below w.heap.size w w' := by
  obtain ⟨w1, hw1⟩ : ∃ w1, w.alloc (Obj.cells #[Value.int .i64 N, Value.slice a n c] 24) = w1 := ⟨_, rfl⟩
  have hs1 : w.heap.size < w1.heap.size := by rw [← hw1]; simp
  have g0 : w1.cell? ⟨w.heap.size, 0, none⟩ = some (.int .i64 N) := by rw [← hw1]; simp [go_sem]
  have g1 : w1.cell? ⟨w.heap.size, 1, none⟩ = some (.slice a n c) := by rw [← hw1]; simp [go_sem]
  have HB1 : Hid (Below w.heap.size w w1) := by show Below _ _ _; rw [← hw1]; exact (Below.refl w.heap.size w).alloc (Nat.le_refl _) _
  have HE := Lib.hid (hE.below HB1.out (Nat.le_refl _))
  have hrl := rA_len N ps v
  obtain ⟨s, hs2⟩ : ∃ s, sA N ps v = s := ⟨_, rfl⟩
  obtain ⟨r, hr2⟩ : ∃ r, rA N ps v = r := ⟨_, rfl⟩
  rw [hr2] at hrl ht
  obtain ⟨ms, hms⟩ : ∃ m, s.length = m := ⟨_, rfl⟩
  obtain ⟨mr, hmr⟩ : ∃ m, r.length = m := ⟨_, rfl⟩
  have hsu := rsucc_at N a n c ps hl hn v s hs2 ms hms w1 HE.out.pairs
  have hre : ∀ X b d, Below w1.heap.size w1 X → Ints X b s → Calls Try.prog 41 #[.agg #[.int .i64 N, .slice a n c], .slice b ms d] X fun e w' => ∃ b2 d2, e = .returned (.slice b2 mr d2) ∧ Ints w' b2 r ∧ Below X.heap.size X w' := fun X b d hX hi => rreach_at N a n c ps hl (by unfold maxLen; omega) v s hs2 ms hms r hr2 mr hmr b d X (HE.out.below hX (Nat.le_refl _)) hi
  have Hsu := Lib.hid hsu
  have Hre := Lib.hid hre
  have Hw1 := Lib.hid hw1
  have Hmr := Lib.hid hmr
  have Ht := Lib.hid ht
  rw [hmr] at hrl
  clear hsu hre hw1 hmr hms hs2 hr2 hE hl ht HE
  go_enter Try.func23, Try.ntmps23
  go_wp2_with fail
  rw [Hw1.out]
  refine Hsu.out.mono ?_
  rintro e w2 ⟨b1, d1, rfl, hi1, hb2⟩
  have k0 := (hb2.cell (p := ⟨w.heap.size, 0, none⟩) hs1).trans g0
  have k1 := (hb2.cell (p := ⟨w.heap.size, 1, none⟩) hs1).trans g1
  have Hi1 := Lib.hid hi1
  have Hb2 := Lib.hid hb2
  clear hi1 hb2
  go_wp2_with fail
  refine (Hre.out w2 b1 d1 Hb2.out Hi1.out).mono ?_
  rintro e w3 ⟨b2, d2, rfl, hi2, hb3⟩
  have Hi2 := Lib.hid hi2
  have HB3 := Lib.hid (HB1.out.trans ((Hb2.out.trans (hb3.mono Hb2.out.size)).mono (Nat.le_of_lt hs1)))
  clear hi2 hb3 k0 k1 g0 g1
  go_wp2
  go_loopw [7] (fun x W => ∃ i : Nat, x = .int .i64 i ∧ i ≤ mr ∧ Hid (v ∉ r.take i) ∧ Hid (Below w3.heap.size w3 W)) (fun x _ => mr - (intOf x).toNat)
  case atStart => exact ⟨0, rfl, Nat.zero_le _, Lib.hid (by simp), Lib.hid (Below.refl _ _)⟩
  case round =>
    obtain ⟨i, rfl, him, Hno, Hbe⟩ := hrel
    by_cases hlt : i < mr
    · have hir : i < r.length := by rw [Hmr.out]; exact hlt
      obtain ⟨bb, oo, rfl, hy⟩ := (Hi2.out.below Hbe.out (Nat.le_refl _)) (by rw [Hmr.out]; omega)
      have cI := hy i hir
      obtain ⟨z, hz⟩ : ∃ z, r.getD i 0 = z := ⟨_, rfl⟩
      rw [hz] at cI
      have hz2 : r[i] = z := by rw [← hz, List.getD_eq_getElem?_getD, List.getElem?_eq_getElem hir]; rfl
      have hnx : v ∉ r.take i → z ≠ v → v ∉ r.take (i + 1) := fun h1 h2 => by
        rw [List.take_succ_eq_append_getElem hir, hz2, List.mem_append, List.mem_singleton]
        rintro (h | h)
        · exact h1 h
        · exact h2 h.symm
      by_cases e : z = v
      · have hin : v ∈ r := by rw [← e, ← hz2]; exact List.getElem_mem _
        have Htt : Hid (t = true) := by show _ = _; rw [← Ht.out]; exact decide_eq_true hin
        have e1 : (z == v) = true := by simpa using e
        have e2 : decide (z = v) = true := by simpa using e
        have HBf := Lib.hid (HB3.out.trans (Hbe.out.mono HB3.out.size))
        clear hy hz hz2 hnx hin
        subst e
        go_wp2
        go_ret
        exact ⟨by rw [Htt.out]; rfl, HBf.out⟩
      · have e1 : (z == v) = false := by simpa using e
        have Hn2 := Lib.hid (hnx Hno.out e)
        clear hy hz hz2 hnx
        go_wp2
        go_roundw
        case rel => exact ⟨i + 1, by go_num, hlt, Hn2, Hbe⟩
        case measure => simp [intOf]; omega
    · obtain rfl : i = mr := by omega
      have Htt : Hid (t = false) := by
        show _ = _
        rw [← Ht.out]
        have := Hno.out
        rw [← Hmr.out, List.take_length] at this
        exact decide_eq_false this
      go_wp2
      go_ret
      exact ⟨by rw [Htt.out]; rfl, HB3.out.trans (Hbe.out.mono HB3.out.size)⟩
end Go.Proofs.Ytopbbihbpalnlaa

namespace Go.Proofs.Ytopbbihbpalnlaa
open Go.RowKit Go.Shelf Go.WideShapes Go.Proofs.Ytopbbihbpalnlaa.D
set_option linter.unusedVariables false
set_option maxRecDepth 100000
theorem ltE_total {a b : Int × Int} (h : ltE a b = false) (k : ltE b a = false) : a = b := by
  rw [ltE_not] at h k
  obtain ⟨x, y⟩ := a
  obtain ⟨u, v⟩ := b
  simp only at h k
  have h1 : x = u := by omega
  have h2 : y = v := by omega
  rw [h1, h2]
theorem ltE_trans {a b c : Int × Int} (h : ltE a b = true) (k : ltE b c = true) : ltE a c = true := by
  rw [ltE_iff] at *; omega
theorem Asc2.pairwise {qs : List (Int × Int)} (h : Asc2 qs) : qs.Pairwise (fun a b => ltE a b = true) := by
  rw [List.pairwise_iff_getElem]
  intro i j hi hj hij
  have := h i j hij hj
  simpa [List.getD_eq_getElem?_getD, hi, hj] using this
def sameG (M : Int) (ps : List (Int × Int)) (N : Int) (qs : List (Int × Int)) : Bool := decide (M = N ∧ ps = qs)
theorem eqP_all {ps qs : List (Int × Int)} (hl : ps.length = qs.length) (h : ∀ i, i < ps.length → ps.getD i (0, 0) = qs.getD i (0, 0)) : ps = qs := by
  apply List.ext_getElem hl
  intro i h1 h2
  have := h i h1
  simpa [List.getD, h1, h2] using this

set_option maxHeartbeats 1600000 in
theorem same_any (M : Int) (a : Option Addr) (c : Nat) (ps : List (Int × Int)) (N : Int) (b : Option Addr) (d : Nat) (qs : List (Int × Int)) (w : World) (hn : ps.length ≤ maxLen) (hm : qs.length ≤ maxLen) (hp : Pairs w a ps) (hq : Pairs w b qs) :
    Calls Try.prog 21 #[.agg #[.int .i64 M, .slice a ps.length c], .agg #[.int .i64 N, .slice b qs.length d]] w fun e w' => e = .returned (.bool (sameG M ps N qs)) ∧ Below w.heap.size w w' := by
  unfold maxLen at hn hm
  obtain ⟨n, hl⟩ : ∃ n, ps.length = n := ⟨_, rfl⟩
  obtain ⟨m, hl2⟩ : ∃ m, qs.length = m := ⟨_, rfl⟩
  have Hl := Lib.hid hl
  have Hl2 := Lib.hid hl2
  have Hp := Lib.hid hp
  have Hq := Lib.hid hq
  rw [hl] at hn ⊢
  rw [hl2] at hm ⊢
  clear hl hl2 hp hq
  have hbb := ((Below.refl w.heap.size w).alloc (Nat.le_refl _) (Obj.cells #[Value.int .i64 M, Value.slice a n c] 24)).alloc (by simp) (Obj.cells #[Value.int .i64 N, Value.slice b m d] 24)
  have Hbb := Lib.hid hbb
  clear hbb
  by_cases hMN : M = N
  · by_cases hnm : n = m
    · subst hMN hnm
      have x0 : ((w.alloc (Obj.cells #[Value.int .i64 M, Value.slice a n c] 24)).alloc (Obj.cells #[Value.int .i64 M, Value.slice b n d] 24)).cell? ⟨w.heap.size, 1, none⟩ = some (.slice a n c) := by simp [go_sem]
      have x1 : ((w.alloc (Obj.cells #[Value.int .i64 M, Value.slice a n c] 24)).alloc (Obj.cells #[Value.int .i64 M, Value.slice b n d] 24)).cell? ⟨w.heap.size + 1, 1, none⟩ = some (.slice b n d) := by simp [go_sem]
      have hsz : ((w.alloc (Obj.cells #[Value.int .i64 M, Value.slice a n c] 24)).alloc (Obj.cells #[Value.int .i64 M, Value.slice b n d] 24)).heap.size = w.heap.size + 2 := by simp
      have Hsz := Lib.hid hsz
      have HX0 := Lib.hid x0
      have HX1 := Lib.hid x1
      clear x0 x1 hsz
      go_enter Try.func21, Try.ntmps21
      go_wp2
      go_loopw [5] (fun i wr => ∃ k : Nat, k ≤ n ∧ i = .int .i64 k ∧ (∀ i, i < k → ps.getD i (0, 0) = qs.getD i (0, 0)) ∧ Drawn ((w.alloc (Obj.cells #[Value.int .i64 M, Value.slice a n c] 24)).alloc (Obj.cells #[Value.int .i64 M, Value.slice b n d] 24)) wr) (fun i _ => n - (intOf i).toNat)
      case atStart => exact ⟨0, Nat.zero_le _, rfl, fun i hi => by omega, .refl _⟩
      case round =>
        obtain ⟨k, hk, rfl, hal, hdr⟩ := hrel
        have Hal := Lib.hid hal
        have Hdr := Lib.hid hdr
        have hbw := Hbb.out.trans (hdr.below w.heap.size)
        have g0 := ((hdr.below (w.heap.size + 2)).cell (p := ⟨w.heap.size, 1, none⟩) (by show w.heap.size < _; omega)).trans HX0.out
        have g1 := ((hdr.below (w.heap.size + 2)).cell (p := ⟨w.heap.size + 1, 1, none⟩) (by show w.heap.size + 1 < _; omega)).trans HX1.out
        have Hbw := Lib.hid hbw
        clear hal hdr hbw
        by_cases hlt : k < n
        · obtain ⟨b1, o1, rfl, hc1⟩ := (Hp.out.below Hbw.out (Nat.le_refl _)) (by rw [Hl.out]; omega)
          obtain ⟨b2, o2, rfl, hc2⟩ := (Hq.out.below Hbw.out (Nat.le_refl _)) (by rw [Hl2.out]; omega)
          obtain ⟨k1, k2⟩ := hc1 k (by rw [Hl.out]; exact hlt)
          obtain ⟨k3, k4⟩ := hc2 k (by rw [Hl2.out]; exact hlt)
          obtain ⟨⟨x, y⟩, he⟩ : ∃ e, ps.getD k (0, 0) = e := ⟨_, rfl⟩
          obtain ⟨⟨u, v⟩, he'⟩ : ∃ e, qs.getD k (0, 0) = e := ⟨_, rfl⟩
          rw [he] at k1 k2
          rw [he'] at k3 k4
          have He := Lib.hid he
          have He' := Lib.hid he'
          clear hc1 hc2 he he'
          by_cases hxu : x = u
          · by_cases hyv : y = v
            · subst hxu hyv
              have T : Hid (∀ i, i < k + 1 → ps.getD i (0, 0) = qs.getD i (0, 0)) := fun i hi => by
                rcases Nat.lt_or_ge i k with h | h
                · exact Hal.out i h
                · obtain rfl : i = k := by omega
                  rw [He.out, He'.out]
              go_wp2
              go_quiet (fail)
              go_wp2
              go_roundw
              case rel => exact ⟨k + 1, by omega, by go_num, T.out, Hdr.out.step _⟩
              case measure => simp [intOf]; omega
            · have T : Hid (false = sameG M ps M qs) := by
                show _ = _
                unfold sameG
                rw [eq_comm, decide_eq_false]
                rintro ⟨_, rfl⟩
                have := He.out.symm.trans He'.out
                cases this
                exact hyv rfl
              have t0 : (y == v) = false := by rw [beq_eq_false_iff_ne]; exact hyv
              subst hxu
              go_wp2
              go_quiet (fail)
              go_wp2
              go_ret
              exact ⟨ret_bool T.out, Hbb.out.trans ((Hdr.out.step _).below _)⟩
          · have T : Hid (false = sameG M ps M qs) := by
              show _ = _
              unfold sameG
              rw [eq_comm, decide_eq_false]
              rintro ⟨_, rfl⟩
              have := He.out.symm.trans He'.out
              cases this
              exact hxu rfl
            have t0 : (x == u) = false := by rw [beq_eq_false_iff_ne]; exact hxu
            go_wp2
            go_quiet (fail)
            go_wp2
            go_ret
            exact ⟨ret_bool T.out, Hbb.out.trans ((Hdr.out.step _).below _)⟩
        · have T : Hid (true = sameG M ps M qs) := by
            show _ = _
            unfold sameG
            rw [eq_comm, decide_eq_true]
            exact ⟨rfl, eqP_all (by rw [Hl.out, Hl2.out]) (fun i hi => Hal.out i (by rw [Hl.out] at hi; omega))⟩
          go_wp2
          go_ret
          exact ⟨ret_bool T.out, Hbw.out⟩
    · subst hMN
      have T : Hid (false = sameG M ps M qs) := by
        show _ = _
        unfold sameG
        rw [eq_comm, decide_eq_false]
        rintro ⟨_, rfl⟩
        exact hnm (Hl.out.symm.trans Hl2.out)
      have hb2 : ((n : Int) != (m : Int)) = true := by simp; omega
      go_enter Try.func21, Try.ntmps21
      go_wp2
      go_ret
      exact ⟨ret_bool T.out, Hbb.out⟩
  · have T : Hid (false = sameG M ps N qs) := by
      show _ = _
      unfold sameG
      rw [eq_comm, decide_eq_false]
      rintro ⟨h, _⟩
      exact hMN h
    have hb1 : (M != N) = true := by simpa using hMN
    go_enter Try.func21, Try.ntmps21
    go_wp2
    go_ret
    exact ⟨ret_bool T.out, Hbb.out⟩

def mrg : List (Int × Int) → List (Int × Int) → List (Int × Int)
  | [], ys => ys
  | a :: xs, [] => a :: xs
  | a :: xs, b :: ys => if ltE a b = true then a :: mrg xs (b :: ys) else if ltE b a = true then b :: mrg (a :: xs) ys else mrg xs (b :: ys)
termination_by xs ys => xs.length + ys.length
theorem mrg_nilL (ys : List (Int × Int)) : mrg [] ys = ys := by cases ys <;> simp [mrg]
theorem mrg_nilR (xs : List (Int × Int)) : mrg xs [] = xs := by cases xs <;> simp [mrg]
theorem mrg_cons (a b : Int × Int) (xs ys : List (Int × Int)) : mrg (a :: xs) (b :: ys) = if ltE a b = true then a :: mrg xs (b :: ys) else if ltE b a = true then b :: mrg (a :: xs) ys else mrg xs (b :: ys) := by
  rw [mrg]
theorem mrg_mem (x : Int × Int) : ∀ (n : Nat) (xs ys : List (Int × Int)), xs.length + ys.length ≤ n → (x ∈ mrg xs ys ↔ x ∈ xs ∨ x ∈ ys)
  | _, [], ys, _ => by simp [mrg_nilL]
  | _, a :: xs, [], _ => by simp [mrg_nilR]
  | 0, a :: xs, b :: ys, h => by simp at h
  | n + 1, a :: xs, b :: ys, h => by
    simp only [List.length_cons] at h
    rw [mrg_cons]
    by_cases h1 : ltE a b = true
    · rw [if_pos h1, List.mem_cons, mrg_mem x n xs (b :: ys) (by simp only [List.length_cons]; omega), List.mem_cons, List.mem_cons, or_assoc]
    · rw [if_neg h1]
      by_cases h2 : ltE b a = true
      · rw [if_pos h2, List.mem_cons, mrg_mem x n (a :: xs) ys (by simp only [List.length_cons]; omega), List.mem_cons, List.mem_cons]
        constructor
        · rintro (h | h | h)
          · exact .inr (.inl h)
          · exact .inl h
          · exact .inr (.inr h)
        · rintro (h | h | h)
          · exact .inr (.inl h)
          · exact .inl h
          · exact .inr (.inr h)
      · rw [if_neg h2, mrg_mem x n xs (b :: ys) (by simp only [List.length_cons]; omega), List.mem_cons, List.mem_cons]
        have e : a = b := ltE_total (by simpa using h1) (by simpa using h2)
        subst e
        constructor
        · rintro (h | h)
          · exact .inl (.inr h)
          · exact .inr h
        · rintro ((h | h) | h)
          · exact .inr (.inl h)
          · exact .inl h
          · exact .inr h
theorem mrg_len : ∀ (n : Nat) (xs ys : List (Int × Int)), xs.length + ys.length ≤ n → (mrg xs ys).length ≤ xs.length + ys.length
  | _, [], ys, _ => by simp [mrg_nilL]
  | _, a :: xs, [], _ => by simp [mrg_nilR]
  | 0, a :: xs, b :: ys, h => by simp at h
  | n + 1, a :: xs, b :: ys, h => by
    simp only [List.length_cons] at h
    rw [mrg_cons]
    by_cases h1 : ltE a b = true
    · rw [if_pos h1]
      have := mrg_len n xs (b :: ys) (by simp only [List.length_cons]; omega)
      simp only [List.length_cons] at this ⊢; omega
    · rw [if_neg h1]
      by_cases h2 : ltE b a = true
      · rw [if_pos h2]
        have := mrg_len n (a :: xs) ys (by simp only [List.length_cons]; omega)
        simp only [List.length_cons] at this ⊢; omega
      · rw [if_neg h2]
        have := mrg_len n xs (b :: ys) (by simp only [List.length_cons]; omega)
        simp only [List.length_cons] at this ⊢; omega
theorem mrg_asc : ∀ (n : Nat) (xs ys : List (Int × Int)), xs.length + ys.length ≤ n → xs.Pairwise (fun a b => ltE a b = true) → ys.Pairwise (fun a b => ltE a b = true) → (mrg xs ys).Pairwise (fun a b => ltE a b = true)
  | _, [], ys, _, _, hb => by rw [mrg_nilL]; exact hb
  | _, a :: xs, [], _, ha, _ => by rw [mrg_nilR]; exact ha
  | 0, a :: xs, b :: ys, h, _, _ => by simp at h
  | n + 1, a :: xs, b :: ys, h, ha, hb => by
    simp only [List.length_cons] at h
    have ha' := List.pairwise_cons.1 ha
    have hb' := List.pairwise_cons.1 hb
    rw [mrg_cons]
    by_cases h1 : ltE a b = true
    · rw [if_pos h1, List.pairwise_cons]
      refine ⟨fun x hx => ?_, mrg_asc n xs (b :: ys) (by simp only [List.length_cons]; omega) ha'.2 hb⟩
      rcases (mrg_mem x _ _ _ (Nat.le_refl _)).1 hx with hx | hx
      · exact ha'.1 x hx
      · rcases List.mem_cons.1 hx with rfl | hx
        · exact h1
        · exact ltE_trans h1 (hb'.1 x hx)
    · rw [if_neg h1]
      by_cases h2 : ltE b a = true
      · rw [if_pos h2, List.pairwise_cons]
        refine ⟨fun x hx => ?_, mrg_asc n (a :: xs) ys (by simp only [List.length_cons]; omega) ha hb'.2⟩
        rcases (mrg_mem x _ _ _ (Nat.le_refl _)).1 hx with hx | hx
        · rcases List.mem_cons.1 hx with rfl | hx
          · exact h2
          · exact ltE_trans h2 (ha'.1 x hx)
        · exact hb'.1 x hx
      · rw [if_neg h2]
        exact mrg_asc n xs (b :: ys) (by simp only [List.length_cons]; omega) ha'.2 hb
theorem asc2_of {qs : List (Int × Int)} (h : qs.Pairwise (fun a b => ltE a b = true)) : Asc2 qs := fun i j hij hj => by
  have := List.pairwise_iff_getElem.1 h i j (by omega) hj hij
  simpa [List.getD_eq_getElem?_getD, hj, show i < qs.length by omega] using this
theorem canon_mrg {ps qs xs ys : List (Int × Int)} (ha : Canon ps xs) (hb : Canon qs ys) : Canon (ps ++ qs) (mrg xs ys) :=
  ⟨asc2_of (mrg_asc _ xs ys (Nat.le_refl _) ha.1.pairwise hb.1.pairwise), fun e => by rw [mrg_mem e _ xs ys (Nat.le_refl _), ha.2, hb.2, List.mem_append]⟩
theorem canon_small {ps : List (Int × Int)} (h : ps.length < 2) : Canon ps ps := ⟨fun i j hij hj => by omega, fun e => Iff.rfl⟩

/-- What is still to be merged. -/
def mrgAt (A B : List (Int × Int)) (i k : Nat) : List (Int × Int) := mrg (A.drop i) (B.drop k)
theorem drop_at {A : List (Int × Int)} {i : Nat} (h : i < A.length) : A.drop i = A.getD i (0, 0) :: A.drop (i + 1) := by
  rw [List.drop_eq_getElem_cons h]; simp [List.getD_eq_getElem?_getD, h]
section
variable {A B : List (Int × Int)} {i k : Nat}
theorem mrgAt_left (hi : i < A.length) (hk : k = B.length) : mrgAt A B i k = A.getD i (0, 0) :: mrgAt A B (i + 1) k := by
  unfold mrgAt
  rw [hk, List.drop_length, mrg_nilR, mrg_nilR, drop_at hi]
theorem mrgAt_right (hi : i = A.length) (hk : k < B.length) : mrgAt A B i k = B.getD k (0, 0) :: mrgAt A B i (k + 1) := by
  unfold mrgAt
  rw [hi, List.drop_length, mrg_nilL, mrg_nilL, drop_at hk]
theorem mrgAt_lt (hi : i < A.length) (hk : k < B.length) (h : ltE (A.getD i (0, 0)) (B.getD k (0, 0)) = true) : mrgAt A B i k = A.getD i (0, 0) :: mrgAt A B (i + 1) k := by
  unfold mrgAt
  rw [drop_at hi, drop_at hk, mrg_cons, if_pos h]
theorem mrgAt_gt (hi : i < A.length) (hk : k < B.length) (h : ltE (A.getD i (0, 0)) (B.getD k (0, 0)) = false) (h2 : ltE (B.getD k (0, 0)) (A.getD i (0, 0)) = true) : mrgAt A B i k = B.getD k (0, 0) :: mrgAt A B i (k + 1) := by
  unfold mrgAt
  rw [drop_at hi, drop_at hk, mrg_cons, if_neg (by rw [h]; decide), if_pos h2]
theorem mrgAt_eq (hi : i < A.length) (hk : k < B.length) (h : ltE (A.getD i (0, 0)) (B.getD k (0, 0)) = false) (h2 : ltE (B.getD k (0, 0)) (A.getD i (0, 0)) = false) : mrgAt A B i k = mrgAt A B (i + 1) k := by
  unfold mrgAt
  rw [drop_at hi, drop_at hk, mrg_cons, if_neg (by rw [h]; decide), if_neg (by rw [h2]; decide)]
theorem mrgAt_end (hi : i = A.length) (hk : k = B.length) : mrgAt A B i k = [] := by
  unfold mrgAt
  rw [hi, hk, List.drop_length, List.drop_length, mrg_nilL]
end
/-- The state of the merge: what is written, and what is to come. -/
structure MI (A B : List (Int × Int)) (i k : Nat) (acc : List (Int × Int)) : Prop where
  hi : i ≤ A.length
  hk : k ≤ B.length
  len : acc.length ≤ i + k
  all : acc ++ mrgAt A B i k = mrg A B
theorem MI.start (A B : List (Int × Int)) : MI A B 0 0 [] := ⟨Nat.zero_le _, Nat.zero_le _, Nat.zero_le _, rfl⟩
section
variable {A B : List (Int × Int)} {i k : Nat} {acc : List (Int × Int)} {e f : Int × Int}
theorem MI.left (h : MI A B i k acc) (hi : i < A.length) (hk : k = B.length) (he : A.getD i (0, 0) = e) : MI A B (i + 1) k (acc ++ [e]) := by
  have := h.len
  exact ⟨hi, h.hk, by simp; omega, by rw [List.append_assoc, ← he, List.singleton_append, ← mrgAt_left hi hk]; exact h.all⟩
theorem MI.right (h : MI A B i k acc) (hi : i = A.length) (hk : k < B.length) (hf : B.getD k (0, 0) = f) : MI A B i (k + 1) (acc ++ [f]) := by
  have := h.len
  exact ⟨h.hi, hk, by simp; omega, by rw [List.append_assoc, ← hf, List.singleton_append, ← mrgAt_right hi hk]; exact h.all⟩
theorem MI.lt (h : MI A B i k acc) (hi : i < A.length) (hk : k < B.length) (he : A.getD i (0, 0) = e) (hf : B.getD k (0, 0) = f) (hl : ltE e f = true) : MI A B (i + 1) k (acc ++ [e]) := by
  have := h.len
  subst he hf
  exact ⟨hi, h.hk, by simp; omega, by rw [List.append_assoc, List.singleton_append, ← mrgAt_lt hi hk hl]; exact h.all⟩
theorem MI.gt (h : MI A B i k acc) (hi : i < A.length) (hk : k < B.length) (he : A.getD i (0, 0) = e) (hf : B.getD k (0, 0) = f) (hl : ltE e f = false) (hl2 : ltE f e = true) : MI A B i (k + 1) (acc ++ [f]) := by
  have := h.len
  subst he hf
  exact ⟨h.hi, hk, by simp; omega, by rw [List.append_assoc, List.singleton_append, ← mrgAt_gt hi hk hl hl2]; exact h.all⟩
theorem MI.eq (h : MI A B i k acc) (hi : i < A.length) (hk : k < B.length) (he : A.getD i (0, 0) = e) (hf : B.getD k (0, 0) = f) (hl : ltE e f = false) (hl2 : ltE f e = false) : MI A B (i + 1) k acc := by
  have := h.len
  subst he hf
  exact ⟨hi, h.hk, by omega, by rw [← mrgAt_eq hi hk hl hl2]; exact h.all⟩
theorem MI.done (h : MI A B i k acc) (hi : i = A.length) (hk : k = B.length) : acc = mrg A B := by
  have := h.all
  rwa [mrgAt_end hi hk, List.append_nil] at this
end

theorem less_at (x y x' y' : Int) (r : Bool) (hr : ltE (x, y) (x', y') = r) (w : World) :
    Calls Try.prog 45 #[.agg #[.int .i64 x, .int .i64 y], .agg #[.int .i64 x', .int .i64 y']] w fun e w' => e = .returned (.bool r) ∧ Below w.heap.size w w' := by
  subst hr; exact less_any (x, y) (x', y') w
def SortEnd (w : World) (ps : List (Int × Int)) (e : Ending) (w' : World) : Prop :=
  ∃ v qs, e = .returned v ∧ OwnP w' w.heap.size v qs ∧ qs.length ≤ ps.length ∧ Canon ps qs ∧ Below w.heap.size w w'
theorem OwnP.mono {w : World} {base : Nat} {v : Value} {ps : List (Int × Int)} (h : OwnP w base v ps) {b : Nat} (hb : b ≤ base) : OwnP w b v ps := by
  obtain ⟨h1, h2⟩ := h
  refine ⟨h1, ?_⟩
  rcases h2 with h2 | ⟨g', cap', cur, hv, hb', hr⟩
  · exact .inl h2
  · exact .inr ⟨_, _, _, hv, Nat.le_trans hb hb', hr⟩
theorem OwnP.empty (w : World) (base : Nat) (hb : base ≤ w.heap.size) : OwnP (w.alloc (.cells #[] 44)) base (.slice (some ⟨w.heap.size, 0, none⟩) 0 0) [] :=
  ⟨rfl, .inr ⟨w.heap.size, 0, #[], rfl, hb, World.alloc_heap_new w _, Nat.le_refl _, Nat.zero_le _, rfl, rfl⟩⟩
theorem Pairs.take {w : World} {a : Option Addr} {ps : List (Int × Int)} (h : Pairs w a ps) (k : Nat) : Pairs w a (ps.take k) := fun h0 => by
  rw [List.length_take] at h0
  obtain ⟨b, off, rfl, hc⟩ := h (by omega)
  refine ⟨b, off, rfl, fun i hi => ?_⟩
  rw [List.length_take] at hi
  have := hc i (by omega)
  simpa [List.getD_eq_getElem?_getD, List.getElem?_take, show i < k by omega] using this

set_option maxHeartbeats 3200000 in
theorem sorted_small (a : Option Addr) (n c : Nat) (ps : List (Int × Int)) (hl : ps.length = n) (w : World) (hn : n < 2) (hE : Edg w a c ps) :
    Calls Try.prog 56 #[.slice a n c] w (SortEnd w ps) := by
  have Hl := Lib.hid hl
  have Hp := Lib.hid hE.pairs
  have Hnil := Lib.hid hE.nil
  clear hl hE
  obtain ⟨e0, he1, he2, he3, he4⟩ := info_parts pair_info
  rcases a with _ | ad
  · obtain rfl := Hnil.out rfl
    obtain rfl : n = 0 := by
      rcases Nat.eq_zero_or_pos n with h | h
      · exact h
      · obtain ⟨b, off, hh, _⟩ := Hp.out (by rw [Hl.out]; exact h)
        cases hh
    have hps : ps = [] := List.length_eq_zero_iff.1 Hl.out
    subst hps
    go_enter Try.func56, Try.ntmps56
    go_wp2_with (at_builtin; refine wpList_append_own_none rfl _ _ 22 rfl w.heap.size 44 e0 2 Try.underlying22 he1 _ 0 [] rfl (OwnP.empty _ _ (Nat.le_refl _)) rfl ?_)
    go_ret
    exact ⟨_, [], rfl, OwnP.empty _ _ (Nat.le_refl _), Nat.le_refl _, canon_small (by simp), (Below.refl _ _).alloc (Nat.le_refl _) _⟩
  · go_enter Try.func56, Try.ntmps56
    go_wp2_with (at_builtin; refine wpList_append_pairs rfl _ _ rfl w.heap.size _ rfl (OwnP.empty _ _ (Nat.le_refl _)) ad n c ps Hl.out rfl (Hp.out.below ((Below.refl _ _).alloc (Nat.le_refl _) _) (Nat.le_refl _)) (by rw [Hl.out]; omega) (by simp) ?_)
    intro v1 w1 hown1 hg1 hiff
    have hb1 := Lib.hid (((Below.refl w.heap.size w).alloc (Nat.le_refl _) (.cells #[] 44)).grown hg1 (by simp) (fun k hk => by cases hk; exact Nat.le_refl _))
    have Ho' := Lib.hid hown1
    obtain ⟨a', c', rfl, _⟩ := hown1.shape
    clear hown1 hg1 hiff
    go_wp2
    go_ret
    exact ⟨_, ps, rfl, Ho'.out, Nat.le_refl _, canon_small (by rw [Hl.out]; exact hn), hb1.out⟩

theorem OwnP.below {w w' : World} {base B : Nat} {v : Value} {ps : List (Int × Int)} (h : OwnP w base v ps) (hb : Below B w w') (hB : w.heap.size ≤ B) : OwnP w' base v ps := by
  obtain ⟨h1, h2⟩ := h
  refine ⟨h1, ?_⟩
  rcases h2 with h2 | ⟨g', cap', cur, hv, hb', hh, hr⟩
  · exact .inl h2
  · refine .inr ⟨_, _, _, hv, hb', (hb.block _ ?_).trans hh, hr⟩
    rcases Nat.lt_or_ge g' w.heap.size with hlt | hge
    · omega
    · rw [Array.getElem?_eq_none hge] at hh; cases hh
theorem Pairs.drop {w : World} {b off : Nat} {ps : List (Int × Int)} (h : ∀ i, i < ps.length → w.cell? ⟨b, off + i * 2, none⟩ = some (.int .i64 (ps.getD i (0, 0)).1) ∧ w.cell? ⟨b, off + i * 2 + 1, none⟩ = some (.int .i64 (ps.getD i (0, 0)).2)) (k : Nat) : Pairs w (some ⟨b, off + k * 2, none⟩) (ps.drop k) := fun h0 => by
  rw [List.length_drop] at h0
  refine ⟨b, off + k * 2, rfl, fun i hi => ?_⟩
  rw [List.length_drop] at hi
  have := h (k + i) (by omega)
  rw [show off + k * 2 + i * 2 = off + (k + i) * 2 by omega]
  simpa [List.getD_eq_getElem?_getD, List.getElem?_drop] using this
theorem cell_new0 (X : World) (u v : Value) (t : TypeId) : (X.alloc (.cells #[u, v] t)).cell? ⟨X.heap.size, 0, none⟩ = some u := by simp [go_sem]
theorem cell_new1 (X : World) (u v : Value) (t : TypeId) : (X.alloc (.cells #[u, v] t)).cell? ⟨X.heap.size, 1, none⟩ = some v := by simp [go_sem]
theorem cell_drewN0 (w : World) (n : Nat) (u v : Value) (t : TypeId) : ((w.drewN n).alloc (.cells #[u, v] t)).cell? ⟨w.heap.size, 0, none⟩ = some u := cell_new0 (w.drewN n) u v t
theorem cell_drewN1 (w : World) (n : Nat) (u v : Value) (t : TypeId) : ((w.drewN n).alloc (.cells #[u, v] t)).cell? ⟨w.heap.size, 1, none⟩ = some v := cell_new1 (w.drewN n) u v t
theorem keepS2 {W X X' : World} {p q r s : Addr} {B : Nat} {u0 u1 t0 t1 : Value} (H : X.cell? p = some u0 ∧ X.cell? q = some u1 ∧ X.cell? r = some t0 ∧ X.cell? s = some t1 ∧ Below B W X) (hB : W.heap.size = B) (hb : Below X.heap.size X X') :
    X'.cell? p = some u0 ∧ X'.cell? q = some u1 ∧ X'.cell? r = some t0 ∧ X'.cell? s = some t1 ∧ Below B W X' := by
  have hs := H.2.2.2.2.size
  exact ⟨(hb.cell (World.block_lt_of_cell? _ _ H.1)).trans H.1, (hb.cell (World.block_lt_of_cell? _ _ H.2.1)).trans H.2.1, (hb.cell (World.block_lt_of_cell? _ _ H.2.2.1)).trans H.2.2.1, (hb.cell (World.block_lt_of_cell? _ _ H.2.2.2.1)).trans H.2.2.2.1, H.2.2.2.2.trans (hb.mono (by omega))⟩

set_option maxHeartbeats 8000000 in
set_option maxRecDepth 100000 in
theorem sorted_step (b off n c : Nat) (ps : List (Int × Int)) (hl : ps.length = n) (w : World) (hn : n ≤ 100000) (h2 : 2 ≤ n) (hE : Edg w (some ⟨b, off, none⟩) c ps)
    (hcell : ∀ i, i < ps.length → w.cell? ⟨b, off + i * 2, none⟩ = some (.int .i64 (ps.getD i (0, 0)).1) ∧ w.cell? ⟨b, off + i * 2 + 1, none⟩ = some (.int .i64 (ps.getD i (0, 0)).2))
    (IH : ∀ (a : Option Addr) (m c : Nat) (qs : List (Int × Int)) (X : World), qs.length = m → m < n → Edg X a c qs → Calls Try.prog 56 #[.slice a m c] X (SortEnd X qs)) :
    Calls Try.prog 56 #[.slice (some ⟨b, off, none⟩) n c] w (SortEnd w ps) := by
  obtain ⟨h, hh⟩ : ∃ h, n / 2 = h := ⟨_, rfl⟩
  have hh1 : 1 ≤ h := by omega
  have hh2 : h < n := by omega
  have hcap : n ≤ c := by rw [← hl]; exact hE.cap
  have hmax := hE.max
  have hmax' := hmax
  unfold maxLen at hmax'
  have hne : ¬ c = h := by omega
  have hA : ∀ X, Below w.heap.size w X → Calls Try.prog 56 #[.slice (some ⟨b, off, none⟩) h c] X (SortEnd X (ps.take h)) := fun X hb =>
    IH _ h c (ps.take h) X (by rw [List.length_take]; omega) hh2 ⟨(hE.pairs.take h).below hb (Nat.le_refl _), by rw [List.length_take]; omega, hmax, fun e => by cases e⟩
  have hB : ∀ X, Below w.heap.size w X → Calls Try.prog 56 #[.slice (some ⟨b, off + h * 2, none⟩) (n - h) (c - h)] X (SortEnd X (ps.drop h)) := fun X hb =>
    IH _ (n - h) (c - h) (ps.drop h) X (by rw [List.length_drop]; omega) (by omega) ⟨(Pairs.drop hcell h).below hb (Nat.le_refl _), by rw [List.length_drop]; omega, by omega, fun e => by cases e⟩
  have hq1 : IntKind.i64.wrap ((n : Int) / 2) = (h : Int) := by
    rw [show (n : Int) / 2 = (h : Int) by omega]
    simp [IntKind.wrap, IntKind.bits, IntKind.signed]; omega
  have hq2 : (0 : Int) ≤ (h : Int) := by omega
  have hq4 : (h : Int) ≤ (n : Int) := by omega
  have hq5 : (h : Int) ≤ (c : Int) := by omega
  have hq6 : (n : Int) ≤ (c : Int) := by omega
  have hq7 : h ≤ c := by omega
  have hq8 : h ≤ n := by omega
  have HA := Lib.hid hA
  have HB := Lib.hid hB
  have Hl := Lib.hid hl
  have hS0 : Below w.heap.size w w.drew := Drawn.below ⟨1, rfl⟩ _
  clear hA hB hE hcell IH hl hh
  go_enter Try.func56, Try.ntmps56
  go_wp2
  go_region_held3 (fun X => Below w.heap.size w X)
    (first
      | (with_reducible assumption)
      | fail)
    (first
      | (go_at_call 56; (with_reducible refine Calls.mono (HA.out _ (by assumption)) ?_); rintro e wA ⟨v1, A, rfl, hoA, hlA, hcA, hbA⟩; obtain ⟨a1, c1, rfl, hpA⟩ := hoA.shape; have hSA := Below.trans (by assumption : Below w.heap.size w _) (hbA.mono (by exact (by assumption : Below w.heap.size w _).size)))
      | (go_at_call 56; (with_reducible refine Calls.mono (HB.out _ hSA) ?_); rintro e wB ⟨v2, B, rfl, hoB, hlB, hcB, hbB⟩; obtain ⟨a2, c2, rfl, hpB⟩ := hoB.shape; have hSB := Below.trans hSA (hbB.mono hSA.size)))
  have HpA := Lib.hid (hpA.below hbB (Nat.le_refl _))
  have HpB := Lib.hid hpB
  have HbW := Lib.hid hSB
  have HcA := Lib.hid hcA
  have HcB := Lib.hid hcB
  have HlA : A.length ≤ 100000 := by rw [List.length_take] at hlA; omega
  have HlB : B.length ≤ 100000 := by rw [List.length_drop] at hlB; have := Hl.out; omega
  have HlAB : Hid (A.length + B.length ≤ ps.length) := by
    show _ ≤ _
    rw [List.length_take] at hlA
    rw [List.length_drop] at hlB
    have := Hl.out
    omega
  clear hpA hlA hcA hbA hSA hpB hlB hcB hbB hSB hS0 hq1 hq2 hq4 hq5 hq6 hoA hoB
  obtain ⟨na, hna⟩ : ∃ na, A.length = na := ⟨_, rfl⟩
  obtain ⟨nb, hnb⟩ : ∃ nb, B.length = nb := ⟨_, rfl⟩
  have Hna := Lib.hid hna
  have Hnb := Lib.hid hnb
  rw [hna] at HlA ⊢
  rw [hnb] at HlB ⊢
  clear hna hnb
  go_wp2
  go_loopw [5, 6, 7] (fun v i k wr => ∃ (x y : Nat) (acc : List (Int × Int)), x ≤ na ∧ y ≤ nb ∧ i = .int .i64 x ∧ k = .int .i64 y ∧ MI A B x y acc ∧ OwnP wr wB.heap.size v acc ∧ Below wB.heap.size wB wr) (fun _ i k _ => na + nb - (intOf i).toNat - (intOf k).toNat)
  case atStart => exact ⟨0, 0, [], Nat.zero_le _, Nat.zero_le _, rfl, rfl, MI.start A B, OwnP.nil _ _, .refl _ _⟩
  case round =>
    obtain ⟨x, y, acc, hx, hy, rfl, rfl, hmi, hown, hb⟩ := hrel
    have hal := hmi.len
    have hsz := hb.size
    have Hmi := Lib.hid hmi
    have Hown := Lib.hid hown
    have Hb := Lib.hid hb
    have HPA := Lib.hid (HpA.out.below hb (Nat.le_refl _))
    have HPB := Lib.hid (HpB.out.below hb (Nat.le_refl _))
    clear hmi hown hb
    by_cases hx1 : x < na
    · obtain ⟨b1, o1, rfl, hc1⟩ := HPA.out (by rw [Hna.out]; omega)
      obtain ⟨k1, k2⟩ := hc1 x (by rw [Hna.out]; exact hx1)
      obtain ⟨⟨p, q⟩, he⟩ : ∃ e, A.getD x (0, 0) = e := ⟨_, rfl⟩
      rw [he] at k1 k2
      have He := Lib.hid he
      clear hc1 he
      by_cases hy1 : y < nb
      · obtain ⟨b2, o2, rfl, hc2⟩ := HPB.out (by rw [Hnb.out]; omega)
        obtain ⟨k3, k4⟩ := hc2 y (by rw [Hnb.out]; exact hy1)
        obtain ⟨⟨r, s⟩, hf⟩ : ∃ e, B.getD y (0, 0) = e := ⟨_, rfl⟩
        rw [hf] at k3 k4
        have Hf := Lib.hid hf
        clear hc2 hf
        have hS0 : wr.drew.cell? ⟨b1, o1 + x * 2, none⟩ = some (.int .i64 p) ∧ wr.drew.cell? ⟨b1, o1 + x * 2 + 1, none⟩ = some (.int .i64 q) ∧ wr.drew.cell? ⟨b2, o2 + y * 2, none⟩ = some (.int .i64 r) ∧ wr.drew.cell? ⟨b2, o2 + y * 2 + 1, none⟩ = some (.int .i64 s) ∧ Below wr.heap.size wr wr.drew := ⟨k1, k2, k3, k4, Drawn.below ⟨1, rfl⟩ _⟩
        have hny : ((y : Int) == (nb : Int)) = false := by rw [beq_eq_false_iff_ne]; omega
        have hnx : ((x : Int) == (na : Int)) = false := by rw [beq_eq_false_iff_ne]; omega
        have hnx2 : ¬ x = na := by omega
        have hny2 : ¬ y = nb := by omega
        cases hlt : ltE (p, q) (r, s) with
        | true =>
          have Hlt := Lib.hid hlt
          clear hlt
          go_wp2
          go_region_held3 (fun X => X.cell? ⟨b1, o1 + x * 2, none⟩ = some (.int .i64 p) ∧ X.cell? ⟨b1, o1 + x * 2 + 1, none⟩ = some (.int .i64 q) ∧ X.cell? ⟨b2, o2 + y * 2, none⟩ = some (.int .i64 r) ∧ X.cell? ⟨b2, o2 + y * 2 + 1, none⟩ = some (.int .i64 s) ∧ Below wr.heap.size wr X)
            (first | with_reducible assumption | fail)
            (first | (go_at_call 45; (with_reducible refine Calls.mono (less_at p q r s true Hlt.out _) ?_); rintro e wC ⟨rfl, hbC⟩; have hSC := keepS2 (by assumption) rfl hbC))
          have l1 := hSC.1
          have l2 := hSC.2.1
          have l3 := hSC.2.2.1
          have l4 := hSC.2.2.2.1
          have HbC := Lib.hid (Hb.out.trans (hSC.2.2.2.2.mono hsz))
          have HownC := Lib.hid (Hown.out.below hSC.2.2.2.2 (Nat.le_refl _))
          have hszC := HbC.out.size
          clear hSC hbC hS0 k1 k2 k3 k4
          go_wp2_with (at_builtin; refine wpList_append_pair rfl _ _ rfl wB.heap.size _ _ rfl (OwnP.alloc HownC.out _) _ (p, q) rfl (by simp [go_sem]) (by simp [go_sem]) (by omega) (by simp; omega) ?_; intro v' w5 hown5 hg5; have Hown5 := Lib.hid hown5; have Hb5 := Lib.hid (HownC.out.grown hg5 HbC.out hszC); clear hown5 hg5)
          go_roundw
          case rel => exact ⟨x + 1, y, acc ++ [(p, q)], by omega, by omega, by go_num, rfl, Hmi.out.lt (by rw [Hna.out]; exact hx1) (by rw [Hnb.out]; exact hy1) He.out Hf.out Hlt.out, Hown5.out, Hb5.out⟩
          case measure => simp [intOf]; omega
        | false =>
          have Hlt := Lib.hid hlt
          clear hlt
          go_wp2
          go_region_held3 (fun X => X.cell? ⟨b1, o1 + x * 2, none⟩ = some (.int .i64 p) ∧ X.cell? ⟨b1, o1 + x * 2 + 1, none⟩ = some (.int .i64 q) ∧ X.cell? ⟨b2, o2 + y * 2, none⟩ = some (.int .i64 r) ∧ X.cell? ⟨b2, o2 + y * 2 + 1, none⟩ = some (.int .i64 s) ∧ Below wr.heap.size wr X)
            (first | with_reducible assumption | fail)
            (first | (go_at_call 45; (with_reducible refine Calls.mono (less_at p q r s false Hlt.out _) ?_); rintro e wC ⟨rfl, hbC⟩; have hSC := keepS2 (by assumption) rfl hbC))
          have hS1 := keepS2 hSC rfl (show Below wC.heap.size wC wC.drew from Drawn.below ⟨1, rfl⟩ _)
          clear hS0 k1 k2 k3 k4 hbC hSC
          cases hlt2 : ltE (r, s) (p, q) with
          | true =>
            have Hlt2 := Lib.hid hlt2
            clear hlt2
            go_wp2
            go_region_held3 (fun X => X.cell? ⟨b1, o1 + x * 2, none⟩ = some (.int .i64 p) ∧ X.cell? ⟨b1, o1 + x * 2 + 1, none⟩ = some (.int .i64 q) ∧ X.cell? ⟨b2, o2 + y * 2, none⟩ = some (.int .i64 r) ∧ X.cell? ⟨b2, o2 + y * 2 + 1, none⟩ = some (.int .i64 s) ∧ Below wr.heap.size wr X)
              (first | with_reducible assumption | fail)
              (first | (go_at_call 45; (with_reducible refine Calls.mono (less_at r s p q true Hlt2.out _) ?_); rintro e wD ⟨rfl, hbD⟩; have hSD := keepS2 (by assumption) rfl hbD))
            have l1 := hSD.1
            have l2 := hSD.2.1
            have l3 := hSD.2.2.1
            have l4 := hSD.2.2.2.1
            have HbD := Lib.hid (Hb.out.trans (hSD.2.2.2.2.mono hsz))
            have HownD := Lib.hid (Hown.out.below hSD.2.2.2.2 (Nat.le_refl _))
            have hszD := HbD.out.size
            clear hSD hbD hS1
            go_wp2_with (at_builtin; refine wpList_append_pair rfl _ _ rfl wB.heap.size _ _ rfl (OwnP.alloc HownD.out _) _ (r, s) rfl (by simp [go_sem]) (by simp [go_sem]) (by omega) (by simp; omega) ?_; intro v' w5 hown5 hg5; have Hown5 := Lib.hid hown5; have Hb5 := Lib.hid (HownD.out.grown hg5 HbD.out hszD); clear hown5 hg5)
            go_roundw
            case rel => exact ⟨x, y + 1, acc ++ [(r, s)], by omega, by omega, rfl, by go_num, Hmi.out.gt (by rw [Hna.out]; exact hx1) (by rw [Hnb.out]; exact hy1) He.out Hf.out Hlt.out Hlt2.out, Hown5.out, Hb5.out⟩
            case measure => simp [intOf]; omega
          | false =>
            have Hlt2 := Lib.hid hlt2
            clear hlt2
            go_wp2
            go_region_held3 (fun X => X.cell? ⟨b1, o1 + x * 2, none⟩ = some (.int .i64 p) ∧ X.cell? ⟨b1, o1 + x * 2 + 1, none⟩ = some (.int .i64 q) ∧ X.cell? ⟨b2, o2 + y * 2, none⟩ = some (.int .i64 r) ∧ X.cell? ⟨b2, o2 + y * 2 + 1, none⟩ = some (.int .i64 s) ∧ Below wr.heap.size wr X)
              (first | with_reducible assumption | fail)
              (first | (go_at_call 45; (with_reducible refine Calls.mono (less_at r s p q false Hlt2.out _) ?_); rintro e wD ⟨rfl, hbD⟩; have hSD := keepS2 (by assumption) rfl hbD))
            have HbD := Lib.hid (Hb.out.trans (hSD.2.2.2.2.mono hsz))
            have HownD := Lib.hid (Hown.out.below hSD.2.2.2.2 (Nat.le_refl _))
            clear hSD hbD hS1
            go_wp2
            go_roundw
            case rel => exact ⟨x + 1, y, acc, by omega, by omega, by go_num, rfl, Hmi.out.eq (by rw [Hna.out]; exact hx1) (by rw [Hnb.out]; exact hy1) He.out Hf.out Hlt.out Hlt2.out, HownD.out, HbD.out⟩
            case measure => simp [intOf]; omega
      · obtain rfl : y = nb := by omega
        go_wp2
        go_quiet (fail)
        go_wp2_with (at_builtin; refine wpList_append_pair rfl _ _ rfl wB.heap.size _ _ rfl (OwnP.alloc (OwnP.drewN Hown.out _) _) _ (p, q) rfl (cell_drewN0 _ _ _ _ _) (cell_drewN1 _ _ _ _ _) (by omega) (by simp; omega) ?_; intro v' w5 hown5 hg5; have Hown5 := Lib.hid hown5; have Hb5 := Lib.hid ((OwnP.drewN Hown.out _).grown hg5 (Hb.out.trans (Drawn.below ⟨_, rfl⟩ _)) hsz); clear hown5 hg5)
        go_roundw
        case rel => exact ⟨x + 1, y, acc ++ [(p, q)], by omega, by omega, by go_num, rfl, Hmi.out.left (by rw [Hna.out]; exact hx1) Hnb.out.symm He.out, Hown5.out, Hb5.out⟩
        case measure => simp [intOf]; omega
    · obtain rfl : x = na := by omega
      by_cases hy1 : y < nb
      · obtain ⟨b2, o2, rfl, hc2⟩ := HPB.out (by rw [Hnb.out]; omega)
        obtain ⟨k3, k4⟩ := hc2 y (by rw [Hnb.out]; exact hy1)
        obtain ⟨⟨r, s⟩, hf⟩ : ∃ e, B.getD y (0, 0) = e := ⟨_, rfl⟩
        rw [hf] at k3 k4
        have Hf := Lib.hid hf
        clear hc2 hf
        have hny : ((y : Int) == (nb : Int)) = false := by rw [beq_eq_false_iff_ne]; omega
        have hny2 : ¬ y = nb := by omega
        go_wp2
        go_quiet (fail)
        go_wp2
        go_quiet (fail)
        go_wp2_with (at_builtin; refine wpList_append_pair rfl _ _ rfl wB.heap.size _ _ rfl (OwnP.alloc (OwnP.drewN Hown.out _) _) _ (r, s) rfl (cell_drewN0 _ _ _ _ _) (cell_drewN1 _ _ _ _ _) (by omega) (by simp; omega) ?_; intro v' w5 hown5 hg5; have Hown5 := Lib.hid hown5; have Hb5 := Lib.hid ((OwnP.drewN Hown.out _).grown hg5 (Hb.out.trans (Drawn.below ⟨_, rfl⟩ _)) hsz); clear hown5 hg5)
        go_roundw
        case rel => exact ⟨x, y + 1, acc ++ [(r, s)], by omega, by omega, rfl, by go_num, Hmi.out.right Hna.out.symm (by rw [Hnb.out]; exact hy1) Hf.out, Hown5.out, Hb5.out⟩
        case measure => simp [intOf]; omega
      · obtain rfl : y = nb := by omega
        go_wp2
        go_ret
        refine ⟨_, acc, rfl, Hown.out.mono HbW.out.size, ?_, ?_, ?_⟩
        · have := HlAB.out; rw [Hna.out, Hnb.out] at this; omega
        · rw [Hmi.out.done Hna.out.symm Hnb.out.symm]
          have := canon_mrg HcA.out HcB.out
          rwa [List.take_append_drop] at this
        · exact HbW.out.trans (Hb.out.mono HbW.out.size)
theorem sorted_any : ∀ (L : Nat) (a : Option Addr) (n c : Nat) (ps : List (Int × Int)) (w : World), ps.length = n → n ≤ L → n ≤ 100000 → Edg w a c ps → Calls Try.prog 56 #[.slice a n c] w (SortEnd w ps) := by
  intro L
  induction L using Nat.strongRecOn with
  | _ L ih =>
    intro a n c ps w hl hL hn hE
    by_cases h2 : n < 2
    · exact sorted_small a n c ps hl w h2 hE
    · obtain ⟨b, off, rfl, hcell⟩ := hE.pairs (by omega)
      exact sorted_step b off n c ps hl w hn (by omega) hE hcell fun a m c qs X hm hlt hX => ih m (by omega) a m c qs X hm (Nat.le_refl _) (by omega) hX

def RMakeEnd (w : World) (n : Int) (ps : List (Int × Int)) (er : Int) (e : Ending) (w' : World) : Prop :=
  Below w.heap.size w w' ∧ ((er ≠ 0 ∧ e = .returned (.tuple #[.agg #[.int .i64 0, .slice none 0 0], .int .i64 er])) ∨
    (er = 0 ∧ ∃ qs a' c', Canon ps qs ∧ qs.length ≤ ps.length ∧ Pairs w' a' qs ∧ e = .returned (.tuple #[.agg #[.int .i64 n, .slice a' qs.length c'], .int .i64 0])))

theorem OwnP.kept {w w' : World} {base g : Nat} {v : Value} {ps : List (Int × Int)} (h : OwnP w base v ps) (hg : w.grownBy w' (some g)) (hlt : g < base) : OwnP w' base v ps :=
  World.ownsRow.kept h hg (.inr fun e => by have := (World.ownsRow.lt h _ e).1; omega)

set_option maxHeartbeats 3200000 in
theorem rmake_any (n : Int) (a : Option Addr) (m c : Nat) (ps : List (Int × Int)) (hl : ps.length = m) (w : World) (hn : m ≤ 32768) (hE : Edg w a c ps) :
    Calls Try.prog 36 #[.int .i64 n, .slice a m c] w (RMakeEnd w n ps (makeE n ps)) := by
  have hb0 := Lib.hid ((Below.refl w.heap.size w).alloc (Nat.le_refl _) (Obj.cells #[Value.int .i64 0, Value.slice none 0 0] 24))
  obtain ⟨er, her⟩ : ∃ er, makeE n ps = er := ⟨_, rfl⟩
  rw [her]
  have Her := Lib.hid her
  have Hl := Lib.hid hl
  by_cases c1 : n < 0
  · obtain rfl : er = 4 := by rw [← her]; unfold makeE; rw [if_pos c1]
    clear hl her
    go_enter Try.func36, Try.ntmps36
    go_wp2
    refine bodyPost_ret (v := .tuple #[.agg #[.int .i64 0, .slice none 0 0], .int .i64 4]) (by simp [results, Try.results36, go_sem]) rfl ?_
    exact ⟨hb0.out, .inl ⟨by decide, rfl⟩⟩
  by_cases c2 : 8192 < n
  · obtain rfl : er = 3 := by rw [← her]; unfold makeE; rw [if_neg c1, if_pos c2]
    clear hl her
    go_enter Try.func36, Try.ntmps36
    go_wp2
    refine bodyPost_ret (v := .tuple #[.agg #[.int .i64 0, .slice none 0 0], .int .i64 3]) (by simp [results, Try.results36, go_sem]) rfl ?_
    exact ⟨hb0.out, .inl ⟨by decide, rfl⟩⟩
  have hmk : makeE n ps = if inN n ps = false then 4 else 0 := by unfold makeE; rw [if_neg c1, if_neg c2]
  have Hmk := Lib.hid hmk
  have HE := Lib.hid hE
  have Hp := Lib.hid hE.pairs
  have Hnil := Lib.hid hE.nil
  clear hl her hmk hE
  have Hq0 := Lib.hid (QC.new w (.int .i64 0) (.slice none 0 0) 24)
  go_enter Try.func36, Try.ntmps36
  go_wp2
  go_loopw [6] (fun i wr => ∃ k : Nat, k ≤ m ∧ i = .int .i64 k ∧ (∀ i, i < k → isNd n (ps.getD i (0, 0)).1 = true ∧ isNd n (ps.getD i (0, 0)).2 = true) ∧ Below (w.heap.size + 1) (w.alloc (Obj.cells #[Value.int .i64 0, Value.slice none 0 0] 24)) wr) (fun i _ => m - (intOf i).toNat)
  case atStart => exact ⟨0, Nat.zero_le _, rfl, fun i hi => by omega, Below.refl _ _⟩
  case round =>
    obtain ⟨k, hk, rfl, hin, hb⟩ := hrel
    have Hin := Lib.hid hin
    have hq := Hq0.out.below hb (Nat.lt_succ_self _)
    have Hq := Lib.hid hq
    have hsz : w.heap.size + 1 ≤ wr.heap.size := by have := hb.size; simpa using this
    have Hb := Lib.hid hb
    have Hbw := Lib.hid (hb0.out.trans (hb.mono (Nat.le_succ _)))
    clear hin hb
    by_cases hlt : k < m
    · obtain ⟨b, off, rfl, hcell⟩ := (Hp.out.below Hbw.out (Nat.le_refl _)) (by rw [Hl.out]; omega)
      obtain ⟨hcx, hcy⟩ := hcell k (by rw [Hl.out]; exact hlt)
      obtain ⟨⟨x, y⟩, he⟩ : ∃ e, ps.getD k (0, 0) = e := ⟨_, rfl⟩
      rw [he] at hcx hcy
      have He := Lib.hid he
      have g0 := hq.c0
      have g1 := hq.c1
      have g2 := hq.f0
      have g3 := hq.f1
      clear he hcell hq
      by_cases d1 : isNd n x = true
      · obtain ⟨x0, x1⟩ := isNd_iff.1 d1
        by_cases d2 : isNd n y = true
        · obtain ⟨y0, y1⟩ := isNd_iff.1 d2
          go_wp2
          go_roundw
          case rel => exact ⟨k + 1, by omega, by go_num, fun i hi => by
            by_cases e : i = k
            · subst e; rw [He.out]; exact ⟨d1, d2⟩
            · exact Hin.out i (by omega), Hb.out⟩
          case measure => simp [intOf]; omega
        · simp only [Bool.not_eq_true] at d2
          have t := Lib.hid (inN_bad (n := n) (i := k) (by rw [Hl.out]; exact hlt) (.inr (by rw [He.out]; exact d2)))
          obtain rfl : er = 4 := by rw [← Her.out, Hmk.out, if_pos t.out]
          have dd := isNd_not.1 d2
          rcases (show y < 0 ∨ (0 ≤ y ∧ n ≤ y) from by omega) with y1 | ⟨y0, y1⟩
          all_goals
            clear dd
            go_wp2
            have hqf := Hq.out.set (.int .i64 0) (.slice none 0 0)
            have i0 := hqf.c0
            have i1 := hqf.c1
            refine bodyPost_ret (v := .tuple #[.agg #[.int .i64 0, .slice none 0 0], .int .i64 4]) (by simp [results, Try.results36, go_sem, i0, i1]) rfl ?_
            exact ⟨below_set2 Hbw.out (Nat.le_refl _) _ _, .inl ⟨by decide, rfl⟩⟩
      · simp only [Bool.not_eq_true] at d1
        have t := Lib.hid (inN_bad (n := n) (i := k) (by rw [Hl.out]; exact hlt) (.inl (by rw [He.out]; exact d1)))
        obtain rfl : er = 4 := by rw [← Her.out, Hmk.out, if_pos t.out]
        have dd := isNd_not.1 d1
        rcases (show x < 0 ∨ (0 ≤ x ∧ n ≤ x) from by omega) with x1 | ⟨x0, x1⟩
        all_goals
          clear dd
          go_wp2
          have hqf := Hq.out.set (.int .i64 0) (.slice none 0 0)
          have i0 := hqf.c0
          have i1 := hqf.c1
          refine bodyPost_ret (v := .tuple #[.agg #[.int .i64 0, .slice none 0 0], .int .i64 4]) (by simp [results, Try.results36, go_sem, i0, i1]) rfl ?_
          exact ⟨below_set2 Hbw.out (Nat.le_refl _) _ _, .inl ⟨by decide, rfl⟩⟩
    · obtain rfl : k = m := by omega
      have hinN : inN n ps = true := inN_iff.2 (by rw [Hl.out]; exact Hin.out)
      obtain rfl : er = 0 := by rw [← Her.out, Hmk.out, if_neg (by rw [hinN]; decide)]
      have hsrt := sorted_any k a k c ps wr Hl.out (Nat.le_refl _) (by omega) (HE.out.below Hbw.out (Nat.le_refl _))
      have Hsrt := Lib.hid hsrt
      clear hsrt hq hinN
      go_wp2_with fail
      refine Hsrt.out.mono ?_
      rintro e w2 ⟨v2, qs, rfl, ho2, hle, hcan, hb2⟩
      have Ho2 := Lib.hid ho2
      obtain ⟨a2, k2, rfl, _⟩ := ho2.shape
      have hqc := Hq.out.below hb2 (by omega)
      have e0 := hqc.c0
      have e1 := hqc.c1
      have e2 := hqc.f0
      have e3 := hqc.f1
      have hq32 : ¬ 32768 < qs.length := by have := Hl.out; omega
      have hqf := Lib.hid (hqc.set (.int .i64 n) (.slice a2 qs.length k2))
      have hbf := Lib.hid (below_set2 (B := w.heap.size) (Hbw.out.trans (hb2.mono (by omega))) (Nat.le_refl _) (.int .i64 n) (.slice a2 qs.length k2))
      have Hpf := Lib.hid (OwnP.kept Ho2.out (grown_trans (grown_setCell w2 w.heap.size 0 (.int .i64 n)) (grown_setCell _ w.heap.size 1 (.slice a2 qs.length k2))) (by omega)).shape
      obtain ⟨a3, k3, e3, hp3⟩ := Hpf.out
      cases e3
      have Hp3 := Lib.hid hp3
      have Hcan := Lib.hid hcan
      have Hle := Lib.hid hle
      clear hqc hb2 ho2 hcan hle hp3
      go_wp2
      have i0 := hqf.out.c0
      have i1 := hqf.out.c1
      refine bodyPost_ret (v := .tuple #[.agg #[.int .i64 n, .slice a2 qs.length k2], .int .i64 0]) (by simp [results, Try.results36, go_sem, i0, i1]) rfl ?_
      exact ⟨hbf.out, .inr ⟨rfl, qs, a2, k2, Hcan.out, Hle.out, Hp3.out, rfl⟩⟩
end Go.Proofs.Ytopbbihbpalnlaa

namespace Go.Proofs.Ytopbbihbpalnlaa
open Go.RowKit Go.Shelf
set_option linter.unusedVariables false
theorem mem_rA {N : Nat} {ps : List (Int × Int)} (hg : GOk (N : Int) ps) {v : Nat} (hv : v < N) : (v : Int) ∈ rA (N : Int) ps (v : Int) ↔ ∃ z, z ∈ suN ps v ∧ Rc (suN ps) z v := by
  unfold rA sA
  rw [if_pos (gchk_of hg), if_pos (gchk_of hg), D.reach_from hg]
  constructor
  · rintro ⟨z, hz, hn, hr⟩
    obtain ⟨n, hn2⟩ := hr.wk
    have hz0 := isNd_iff.1 hn
    obtain ⟨z, rfl⟩ : ∃ m : Nat, z = (m : Int) := ⟨z.toNat, by omega⟩
    obtain ⟨y, e, hr2⟩ := wk_rc hg hn2
    have : v = y := by omega
    subst this
    exact ⟨z, by rw [← ni_suN hg] at hz; exact mem_ni.mp hz, hr2⟩
  · rintro ⟨z, hz, hr⟩
    obtain ⟨n, hn⟩ := rc_wk hg hr
    refine ⟨(z : Int), by rw [← ni_suN hg]; exact mem_ni.mpr hz, isNd_iff.2 ⟨by omega, by have := suN_lt hg v z hz; omega⟩, hn.rch⟩
theorem acy_rec {N : Nat} {ps : List (Int × Int)} (hg : GOk (N : Int) ps) : acyB (N : Int) ps = true ↔ ∀ v, v < N → (v : Int) ∉ rA (N : Int) ps (v : Int) := by
  have hc := compL_comps (N := N) (su := suN ps) (srt := srt) srt_perm (suN_lt hg)
  have hl := hc.lok hg
  have hle := hl.count
  unfold acyB
  rw [if_pos (gchk_of hg), Int.toNat_natCast, Bool.and_eq_true, Bool.not_eq_true', List.any_eq_false, beq_iff_eq]
  constructor
  · rintro ⟨hC, hno⟩ v hv hr
    obtain ⟨z, hz, hrz⟩ := (mem_rA hg hv).mp hr
    have hzN := suN_lt hg v z hz
    have hne : z ≠ v := fun e => by
      subst e
      have := hno _ ((mem_suN hg).mp hz)
      simp at this
    have h1 : ((List.range (compL N (suN ps) srt).length).map (hdL (compL N (suN ps) srt))).Nodup := by
      unfold List.Nodup
      rw [List.pairwise_map]
      refine List.Pairwise.imp_of_mem ?_ (List.nodup_range (n := (compL N (suN ps) srt).length))
      intro a b ha hb hne e
      rw [List.mem_range] at ha hb
      exact hne (hl.inj a b ha hb e)
    have hall : ∀ x, x < N → x ∈ (List.range (compL N (suN ps) srt).length).map (hdL (compL N (suN ps) srt)) := fun x hx => Classical.byContradiction fun hn => by
      have h2 : (x :: (List.range (compL N (suN ps) srt).length).map (hdL (compL N (suN ps) srt))).Nodup := List.nodup_cons.mpr ⟨hn, h1⟩
      have := nodupLe (N := N) h2 (fun y hy => by
        rcases List.mem_cons.mp hy with e | e
        · exact e ▸ hx
        · obtain ⟨i, hi, e2⟩ := List.mem_map.mp e
          rw [List.mem_range] at hi
          exact e2 ▸ hl.lt i hi _ (hl.hd_mem hi))
      simp at this
      omega
    have hhd : ∀ x, x < N → hdL (compL N (suN ps) srt) (cx N (compL N (suN ps) srt) (x : Int)) = x := fun x hx => by
      obtain ⟨i, hi, e⟩ := List.mem_map.mp (hall x hx)
      rw [List.mem_range] at hi
      rw [← e, hl.cx_hd hi]
    obtain ⟨v1, v2, _⟩ := hl.at_ hv
    have hzm := (hc.scc _ (getD_mem v1) v v2 z).mpr ⟨.edge hz, hrz⟩
    have h3 := hhd z hzN
    rw [hl.cx_of v1 hzm, hhd v hv] at h3
    exact hne h3.symm
  · intro hno
    refine ⟨?_, fun e he => ?_⟩
    · have h1 : ((List.range N).map fun (x : Nat) => cx N (compL N (suN ps) srt) (x : Int)).Nodup := by
        unfold List.Nodup
        rw [List.pairwise_map]
        refine List.Pairwise.imp_of_mem ?_ (List.nodup_range (n := N))
        intro a b ha hb hne e
        rw [List.mem_range] at ha hb
        obtain ⟨a1, a2, _⟩ := hl.at_ ha
        obtain ⟨_, b2, _⟩ := hl.at_ hb
        rw [← e] at b2
        obtain ⟨r1, r2⟩ := (hc.scc _ (getD_mem a1) a a2 b).mp b2
        refine hno a ha ((mem_rA hg ha).mpr ?_)
        have hfirst : ∀ {y : Nat}, Rc (suN ps) a y → a = y ∨ ∃ z, z ∈ suN ps a ∧ Rc (suN ps) z y := fun h => by
          induction h with
          | refl => exact .inl rfl
          | tail _ e ih =>
            rcases ih with h | ⟨z, z1, z2⟩
            · subst h; exact .inr ⟨_, e, .refl⟩
            · exact .inr ⟨z, z1, z2.tail e⟩
        rcases hfirst r1 with h | ⟨z, z1, z2⟩
        · exact absurd h hne
        · exact ⟨z, z1, z2.trans r2⟩
      have := nodupLe (N := (compL N (suN ps) srt).length) h1 (fun x hx => by
        obtain ⟨v, hv, e⟩ := List.mem_map.mp hx
        rw [List.mem_range] at hv
        exact e ▸ (hl.at_ hv).1)
      simp at this
      omega
    · simp only [beq_iff_eq]
      intro e2
      obtain ⟨⟨a1, a2⟩, _⟩ := hg.fit e he
      obtain ⟨x, y⟩ := e
      simp only at e2 a1 a2
      subst e2
      obtain ⟨x, rfl⟩ : ∃ m : Nat, x = (m : Int) := ⟨x.toNat, by omega⟩
      exact hno x (by omega) ((mem_rA hg (by omega)).mpr ⟨x, (mem_suN hg).mpr he, .refl⟩)
set_option maxRecDepth 100000 in
set_option maxHeartbeats 2000000 in
theorem racy_any (N : Int) (a : Option Addr) (n c : Nat) (ps : List (Int × Int)) (w : World) (hl : ps.length = n) (hn : n ≤ 100000) (hE : Edg w a c ps) (t : Bool) (ht : acyB N ps = t) :
    Calls Try.prog 25 #[.agg #[.int .i64 N, .slice a n c]] w fun e w' => e = .returned (.bool t) ∧ Below w.heap.size w w' := by
  obtain ⟨w1, hw1⟩ : ∃ w1, w.alloc (Obj.cells #[Value.int .i64 N, Value.slice a n c] 24) = w1 := ⟨_, rfl⟩
  have hs1 : w.heap.size < w1.heap.size := by rw [← hw1]; simp
  have g0 : w1.cell? ⟨w.heap.size, 0, none⟩ = some (.int .i64 N) := by rw [← hw1]; simp [go_sem]
  have g1 : w1.cell? ⟨w.heap.size, 1, none⟩ = some (.slice a n c) := by rw [← hw1]; simp [go_sem]
  have HB1 : Hid (Below w.heap.size w w1) := by show Below _ _ _; rw [← hw1]; exact (Below.refl w.heap.size w).alloc (Nat.le_refl _) _
  have HE := Lib.hid (hE.below HB1.out (Nat.le_refl _))
  obtain ⟨k, hk⟩ : ∃ k, gchk N ps = k := ⟨_, rfl⟩
  have hck := D.check_at N a n c ps k hk w1 hl (by unfold maxLen; omega) HE.out.pairs
  have Hck := Lib.hid hck
  have Hl := Lib.hid hl
  have Hk := Lib.hid hk
  have Hw1 := Lib.hid hw1
  have Ht := Lib.hid ht
  clear hck hE hl hk hw1 ht
  go_enter Try.func25, Try.ntmps25
  go_wp2_with fail
  rw [Hw1.out]
  refine Hck.out.mono ?_
  rintro e w2 ⟨rfl, hb2⟩
  have k0 := (hb2.cell (p := ⟨w.heap.size, 0, none⟩) hs1).trans g0
  have k1 := (hb2.cell (p := ⟨w.heap.size, 1, none⟩) hs1).trans g1
  have hs2 := hb2.size
  have HB2 := Lib.hid (HB1.out.trans (hb2.mono (Nat.le_of_lt hs1)))
  have HE2 := Lib.hid (HE.out.below hb2 (Nat.le_refl _))
  clear hb2 HE g0 g1 Hck
  by_cases hk0 : k = 0
  rotate_left
  · have e0 : (k != 0) = true := by rw [bne_iff_ne]; exact hk0
    have Htf : Hid (t = false) := by show _ = _; rw [← Ht.out]; unfold acyB; rw [if_neg (by rw [Hk.out]; exact hk0)]
    go_wp2
    go_ret
    exact ⟨by rw [Htf.out]; rfl, HB2.out⟩
  have e0 : (k != 0) = false := by rw [hk0]; rfl
  have hg := gchk_ok (show gchk N ps = 0 by rw [Hk.out]; exact hk0)
  obtain ⟨N, rfl⟩ : ∃ m : Nat, N = (m : Int) := ⟨N.toNat, by have := hg.lo; omega⟩
  have hN8 := hg.hi
  have Hiff : Hid (t = true ↔ ∀ v, v < N → (v : Int) ∉ rA (N : Int) ps (v : Int)) := by show _ ↔ _; rw [← Ht.out]; exact acy_rec hg
  clear hg
  subst hk0
  go_wp2
  go_loopw [3] (fun x W => ∃ v : Nat, x = .int .i64 v ∧ v ≤ N ∧ Hid (∀ u, u < v → (u : Int) ∉ rA (N : Int) ps (u : Int)) ∧ Hid (Below w2.heap.size w2 W)) (fun x _ => N - (intOf x).toNat)
  case atStart => exact ⟨0, rfl, Nat.zero_le _, Lib.hid (fun u hu => absurd hu (Nat.not_lt_zero u)), Lib.hid (Below.refl _ _)⟩
  case round =>
    obtain ⟨v, rfl, hvN, Hno, Hbe⟩ := hrel
    have m0 := (Hbe.out.cell (p := ⟨w.heap.size, 0, none⟩) (by show w.heap.size < _; omega)).trans k0
    have m1 := (Hbe.out.cell (p := ⟨w.heap.size, 1, none⟩) (by show w.heap.size < _; omega)).trans k1
    have hsz := Hbe.out.size
    by_cases hlt : v < N
    · obtain ⟨s, hs⟩ : ∃ s, decide ((v : Int) ∈ rA (N : Int) ps (v : Int)) = s := ⟨_, rfl⟩
      have hrr := rrec_any (N : Int) a n c ps (v : Int) wr Hl.out hn (HE2.out.below Hbe.out (Nat.le_refl _)) s hs
      have Hrr := Lib.hid hrr
      have Hs := Lib.hid hs
      clear hrr hs
      go_wp2_with fail
      refine Hrr.out.mono ?_
      rintro e w4 ⟨rfl, hb4⟩
      have Hb4 := Lib.hid (Hbe.out.trans (hb4.mono hsz))
      clear hb4
      cases s with
      | true =>
        have Htf : Hid (t = false) := by
          show _ = _
          cases t with
          | false => rfl
          | true => exact absurd (of_decide_eq_true Hs.out) (Hiff.out.mp rfl v hlt)
        go_wp2
        go_ret
        exact ⟨by rw [Htf.out]; rfl, HB2.out.trans (Hb4.out.mono (by omega))⟩
      | false =>
        have Hn2 : Hid (∀ u, u < v + 1 → (u : Int) ∉ rA (N : Int) ps (u : Int)) := by
          show ∀ u, _
          intro u hu
          by_cases e : u = v
          · subst e; exact of_decide_eq_false Hs.out
          · exact Hno.out u (by omega)
        go_wp2
        go_roundw
        case rel => exact ⟨v + 1, by go_num, hlt, Hn2, Hb4⟩
        case measure => simp [intOf]; omega
    · obtain rfl : v = N := by omega
      have Htt : Hid (t = true) := Lib.hid (Hiff.out.mpr Hno.out)
      go_wp2
      go_ret
      exact ⟨by rw [Htt.out]; rfl, HB2.out.trans (Hbe.out.mono (by omega))⟩
end Go.Proofs.Ytopbbihbpalnlaa

namespace Go.Proofs.Ytopbbihbpalnlaa
open Go.RowKit Go.Shelf
set_option linter.unusedVariables false
/-- What the definition's Condense returns; L is a list of the components. -/
def RCondEnd (w : World) (N : Int) (ps : List (Int × Int)) (k : Int) (L : List (List Nat)) (e : Ending) (w' : World) : Prop :=
  Below w.heap.size w w' ∧ ((k ≠ 0 ∧ e = .returned (.tuple #[.agg #[.int .i64 0, .slice none 0 0], .int .i64 k])) ∨
    (k = 0 ∧ ∃ qs m l a' c', L.length = m ∧ qs.length = l ∧ Canon (condP N.toNat L ps) qs ∧ l ≤ ps.length ∧ Pairs w' a' qs ∧ e = .returned (.tuple #[.agg #[.int .i64 (m : Int), .slice a' l c'], .int .i64 0])))
set_option maxRecDepth 100000 in
set_option maxHeartbeats 4000000 in
theorem rcond_any (N : Int) (a : Option Addr) (n c : Nat) (ps : List (Int × Int)) (hl : ps.length = n) (hn : n ≤ maxLen) (w : World) (hE : Pairs w a ps) (k : Int) (hk : gchk N ps = k) (L : List (List Nat)) (hC : CL N ps L) : Calls Try.prog 20 #[.agg #[.int .i64 N, .slice a n c]] w (RCondEnd w N ps k L) := by
  obtain ⟨w1, hw1⟩ : ∃ w1, (w.alloc (Obj.cells #[Value.int .i64 N, Value.slice a n c] 24)).alloc (Obj.cells #[Value.int .i64 0, Value.slice none 0 0] 24) = w1 := ⟨_, rfl⟩
  have hs1 : w1.heap.size = w.heap.size + 2 := by rw [← hw1]; simp
  have g0 : w1.cell? ⟨w.heap.size, 0, none⟩ = some (.int .i64 N) := by rw [← hw1]; simp [go_sem]
  have g1 : w1.cell? ⟨w.heap.size, 1, none⟩ = some (.slice a n c) := by rw [← hw1]; simp [go_sem]
  have hq1 : QC w1 (w.heap.size + 1) (.int .i64 0) (.slice none 0 0) := by
    have := QC.new (w.alloc (Obj.cells #[Value.int .i64 N, Value.slice a n c] 24)) (.int .i64 0) (.slice none 0 0) 24
    rw [World.size_alloc, hw1] at this
    exact this
  have ho1 : w1.heap[w.heap.size + 1]? = some (.cells #[.int .i64 0, .slice none 0 0] 24 (0, 0)) := by
    rw [← hw1]
    have := World.alloc_heap_new (w.alloc (Obj.cells #[Value.int .i64 N, Value.slice a n c] 24)) (.cells #[.int .i64 0, .slice none 0 0] 24)
    rw [World.size_alloc] at this
    exact this
  have HB1 : Hid (Below w.heap.size w w1) := by show Below _ _ _; rw [← hw1]; exact ((Below.refl w.heap.size w).alloc (Nat.le_refl _) _).alloc (by simp) _
  have HE := Lib.hid (hE.below HB1.out (Nat.le_refl _))
  obtain ⟨mo, hmo⟩ : ∃ m, (ofL N ps L).length = m := ⟨_, rfl⟩
  have hco := rcomps_at N a n c ps hl hn w1 HE.out k hk L hC
  have hof : ∀ X, Below w1.heap.size w1 X → Calls Try.prog 14 #[.agg #[.int .i64 N, .slice a n c]] X fun e w' => ∃ b d, e = .returned (.tuple #[.slice b mo d, .int .i64 k]) ∧ Ints w' b (ofL N ps L) ∧ Below X.heap.size X w' := fun X hX => rof_at N a n c ps hl hn X (HE.out.below hX (Nat.le_refl _)) k hk L hC mo hmo
  have Hco := Lib.hid hco
  have Hof := Lib.hid hof
  have Hl := Lib.hid hl
  have Hk := Lib.hid hk
  have Hw1 := Lib.hid hw1
  have Hq1 := Lib.hid hq1
  have Hmo := Lib.hid hmo
  have HC := Lib.hid hC
  clear hl hk hE hw1 hq1 hco hof hmo hC
  go_enter Try.func20, Try.ntmps20
  go_wp2_with fail
  rw [Hw1.out]
  refine Hco.out.mono ?_
  rintro e w2 ⟨hb2, m, a1, c1, hm, rfl, _⟩
  have hs2 : w.heap.size + 2 ≤ w2.heap.size := by have := hb2.size; omega
  have k0 := (hb2.cell (p := ⟨w.heap.size, 0, none⟩) (by show w.heap.size < _; omega)).trans g0
  have k1 := (hb2.cell (p := ⟨w.heap.size, 1, none⟩) (by show w.heap.size < _; omega)).trans g1
  have hq2 := Hq1.out.below hb2 (by omega)
  have ho2 := (hb2.block (w.heap.size + 1) (by omega)).trans ho1
  have HB2 := Lib.hid (HB1.out.trans (hb2.mono (by omega)))
  have HE2 := Lib.hid (HE.out.below hb2 (Nat.le_refl _))
  have Hq2 := Lib.hid hq2
  have Hb2 := Lib.hid hb2
  clear Hq1 HE
  by_cases hk0 : k = 0
  rotate_left
  · have e0 : (k != 0) = true := by rw [bne_iff_ne]; exact hk0
    have b0 := hq2.c0
    have b1 := hq2.c1
    have b2 := hq2.f0
    have b3 := hq2.f1
    have hqf := hq2.set (.int .i64 0) (.slice none 0 0)
    have i0 := hqf.c0
    have i1 := hqf.c1
    clear hq2 hqf hb2 hm Hof
    go_wp2
    refine bodyPost_ret (v := .tuple #[.agg #[.int .i64 0, .slice none 0 0], .int .i64 k]) (by simp [results, Try.results20, go_sem, i0, i1]) rfl ?_
    exact ⟨below_set2 HB2.out (by omega) _ _, .inl ⟨hk0, rfl⟩⟩
  have e0 : (k != 0) = false := by rw [hk0]; rfl
  have hg := gchk_ok (show gchk N ps = 0 by rw [Hk.out]; exact hk0)
  obtain ⟨N, rfl⟩ : ∃ m : Nat, N = (m : Int) := ⟨N.toNat, by have := hg.lo; omega⟩
  have hN8 : N ≤ 8192 := by have := hg.hi; omega
  have hn2 : n ≤ 32768 := by have := hg.len; rw [Hl.out] at this; exact this
  have hcc := HC.out.good (by rw [Hk.out]; exact hk0)
  rw [Int.toNat_natCast] at hcc
  have hof : ofL (N : Int) ps L = idxTo N (L.map ni) L.length := by unfold ofL; rw [if_pos (by rw [Hk.out]; exact hk0), Int.toNat_natCast]
  have hmN : mo = N := by rw [← Hmo.out, hof, idxTo_len]
  subst hmN
  have Hcc := Lib.hid hcc
  have Hg := Lib.hid hg
  have Hm := Lib.hid hm
  have Hofe := Lib.hid hof
  clear hb2 hm hcc hg hq2 Hmo hof
  subst hk0
  go_wp2_with fail
  refine (Hof.out w2 Hb2.out).mono ?_
  rintro e w3 ⟨bo3, do3, rfl, hi3, hb3⟩
  have hs3 : w2.heap.size ≤ w3.heap.size := hb3.size
  have j0 := (hb3.cell (p := ⟨w.heap.size, 0, none⟩) (by show w.heap.size < _; omega)).trans k0
  have j1 := (hb3.cell (p := ⟨w.heap.size, 1, none⟩) (by show w.heap.size < _; omega)).trans k1
  have ho3 := (hb3.block (w.heap.size + 1) (by omega)).trans ho2
  have Ho3 := Lib.hid ho3
  clear ho1 ho2 ho3
  have HB3 := Lib.hid (HB2.out.trans (hb3.mono (by omega)))
  have HE3 := Lib.hid (HE2.out.below hb3 (Nat.le_refl _))
  have Hq3 := Lib.hid (Hq2.out.below hb3 (by omega))
  rw [Hofe.out] at hi3
  have Hi3 := Lib.hid hi3
  clear hb3 hi3 HE2 Hq2 k0 k1 g0 g1 Hof Hb2
  have hiN : (idxTo mo (L.map ni) L.length).length = mo := idxTo_len ..
  go_wp2
  go_loopw [8, 9] (fun v i W => ∃ k : Nat, k ≤ n ∧ i = .int .i64 k ∧ Hid (OwnP W w3.heap.size v (condP mo L (ps.take k))) ∧ Hid (Below w3.heap.size w3 W)) (fun _ i _ => n - (intOf i).toNat)
  case atStart => exact ⟨0, Nat.zero_le _, rfl, Lib.hid (OwnP.nil _ _), Lib.hid (Below.refl _ _)⟩
  case round =>
    obtain ⟨k, hk, rfl, Hown, Hbe⟩ := hrel
    have hsz := Hbe.out.size
    have l0 := (Hbe.out.cell (p := ⟨w.heap.size, 0, none⟩) (by show w.heap.size < _; omega)).trans j0
    have l1 := (Hbe.out.cell (p := ⟨w.heap.size, 1, none⟩) (by show w.heap.size < _; omega)).trans j1
    by_cases hlt : k < n
    · obtain ⟨b, off, rfl, hcell⟩ := (HE3.out.below Hbe.out (Nat.le_refl _)) (by rw [Hl.out]; omega)
      obtain ⟨hcx, hcy⟩ := hcell k (by rw [Hl.out]; exact hlt)
      obtain ⟨⟨x, y⟩, he⟩ : ∃ e, ps.getD k (0, 0) = e := ⟨_, rfl⟩
      have hk' : ps[k]'(by rw [Hl.out]; exact hlt) = (x, y) := by simpa [List.getD_eq_getElem?_getD, Hl.out, hlt] using he
      have hnd := Hg.out.fit (x, y) (by rw [← hk']; exact List.getElem_mem _)
      rw [he] at hcx hcy
      obtain ⟨x, rfl⟩ : ∃ m : Nat, x = (m : Int) := ⟨x.toNat, by have := hnd.1; simp at this; omega⟩
      obtain ⟨y, rfl⟩ : ∃ m : Nat, y = (m : Int) := ⟨y.toNat, by have := hnd.2; simp at this; omega⟩
      have hxN : x < mo := by have := hnd.1.2; simp at this; omega
      have hyN : y < mo := by have := hnd.2.2; simp at this; omega
      have hD : condP mo L (ps.take (k + 1)) = condP mo L (ps.take k) ++ (if ixAt mo L (x : Int) = ixAt mo L (y : Int) then [] else [(ixAt mo L (x : Int), ixAt mo L (y : Int))]) := by
        rw [List.take_succ_eq_append_getElem (by rw [Hl.out]; exact hlt), hk', condP_snoc]
      have hdl := condP_len mo L (ps.take k)
      have hdl2 : (ps.take k).length ≤ n := by rw [List.length_take, Hl.out]; omega
      obtain ⟨bb, bo, rfl, hoc⟩ := (Hi3.out.below Hbe.out (Nat.le_refl _)) (by rw [hiN]; omega)
      have cF := hoc x (by rw [hiN]; exact hxN)
      have cT := hoc y (by rw [hiN]; exact hyN)
      obtain ⟨f, hf⟩ : ∃ f, (idxTo mo (L.map ni) L.length).getD x 0 = f := ⟨_, rfl⟩
      obtain ⟨t, ht⟩ : ∃ t, (idxTo mo (L.map ni) L.length).getD y 0 = t := ⟨_, rfl⟩
      have hf2 : ixAt mo L (x : Int) = f := by unfold ixAt; rw [Int.toNat_natCast]; exact hf
      have ht2 : ixAt mo L (y : Int) = t := by unfold ixAt; rw [Int.toNat_natCast]; exact ht
      rw [hf2, ht2] at hD
      rw [hf] at cF
      rw [ht] at cT
      have HD := Lib.hid hD
      clear hcell he hk' hnd hD hf ht hf2 ht2 hoc
      by_cases hft : f = t
      · subst hft
        rw [if_pos rfl, List.append_nil] at HD
        have hne : (f != f) = false := by simp
        clear hiN
        go_wp2
        go_quiet (fail)
        have Hown7 := Lib.hid (Hown.out.drewN nq)
        have Hbe7 := Lib.hid (Hbe.out.trans (Drawn.below (w' := wr.drewN nq) ⟨nq, rfl⟩ _))
        go_wp2
        go_roundw
        case rel => exact ⟨k + 1, hlt, by go_num, by rw [HD.out]; exact Hown7, Hbe7⟩
        case measure => simp [intOf]; omega
      · rw [if_neg hft] at HD
        have hne : (f != t) = true := by simpa using hft
        clear hiN
        go_wp2
        go_quiet (fail)
        have hown7 := Hown.out.drewN nq
        have hbe7 := Hbe.out.trans (Drawn.below (w' := wr.drewN nq) ⟨nq, rfl⟩ _)
        generalize wr.drewN nq = W7 at *
        have hs7 := hbe7.size
        have Hown7 := Lib.hid hown7
        have Hbe7 := Lib.hid hbe7
        clear hown7 hbe7 Hown Hbe
        go_wp2_with (at_builtin; refine wpList_append_pair rfl _ _ rfl w3.heap.size _ _ rfl (Hown7.out.alloc _) _ (f, t) rfl (by simp [go_sem]) (by simp [go_sem]) (by omega) (by simp; omega) ?_; intro v' w8 hown8 hg8; have Hown8 := Lib.hid hown8; have Hbe8 := Lib.hid (Hown7.out.grown hg8 Hbe7.out hs7); clear hown8 hg8)
        go_roundw
        case rel => exact ⟨k + 1, hlt, by go_num, by rw [HD.out]; exact Hown8, Hbe8⟩
        case measure => simp [intOf]; omega
    · obtain rfl : k = n := by omega
      have hown : OwnP wr w3.heap.size u8 (condP mo L ps) := by
        have := Hown.out
        rw [← Hl.out, List.take_length] at this
        exact this
      have hdl := condP_len mo L ps
      rw [Hl.out] at hdl
      obtain ⟨ab, cb, rfl, hpb⟩ := hown.shape
      have hEd : Edg wr ab cb (condP mo L ps) := by
        refine ⟨hpb, ?_, ?_, ?_⟩
        · rcases hown.2 with ⟨h0, h00⟩ | ⟨g', cap', cur, hv, _, _, h3, h4, _⟩
          · omega
          · cases hv; exact h3
        · rcases hown.2 with ⟨h0, _⟩ | ⟨g', cap', cur, hv, _, _, h3, h4, _⟩
          · rw [Value.slice.injEq] at h0; unfold maxLen; omega
          · cases hv; exact h4
        · intro e
          rcases hown.2 with ⟨h0, _⟩ | ⟨g', cap', cur, hv, _, _, h3, h4, _⟩
          · rw [Value.slice.injEq] at h0; exact h0.2.2
          · cases hv; cases e
      obtain ⟨q, hq⟩ : ∃ q, (condP mo L ps).length = q := ⟨_, rfl⟩
      have hmk := rmake_any (m : Int) ab q cb (condP mo L ps) hq wr (by omega) hEd
      have hme : makeE (m : Int) (condP mo L ps) = 0 := by rw [← Hm.out]; exact Hcc.out.cond_make Hg.out
      rw [hme] at hmk
      rw [hq] at hdl
      simp only [hq]
      have Hmk := Lib.hid hmk
      have Hq := Lib.hid hq
      clear hown hpb hEd hmk hme hq Hown hiN
      go_wp2_with fail
      refine Hmk.out.mono ?_
      rintro e w4 ⟨hb4, ⟨h, _⟩ | ⟨_, qs, a', c', hcan, hql, hE4, rfl⟩⟩
      · exact absurd rfl h
      rw [Hq.out] at hql
      obtain ⟨l, hle⟩ : ∃ l, qs.length = l := ⟨_, rfl⟩
      rw [hle] at hql ⊢
      have HB4 := Lib.hid (HB3.out.trans ((Hbe.out.trans (hb4.mono hsz)).mono (by omega)))
      have hq4 := (Hq3.out.below Hbe.out (by omega)).below hb4 (by omega)
      have b0 := hq4.c0
      have b1 := hq4.c1
      have b2 := hq4.f0
      have b3 := hq4.f1
      have hqf := hq4.set (.int .i64 (m : Int)) (.slice a' l c')
      have i0 := hqf.c0
      have i1 := hqf.c1
      have hEf : Pairs ((w4.setCell ⟨w.heap.size + 1, 0, none⟩ (.int .i64 (m : Int))).setCell ⟨w.heap.size + 1, 1, none⟩ (.slice a' l c')) a' qs := by
        have ho4 := (hb4.block (w.heap.size + 1) (by omega)).trans ((Hbe.out.block (w.heap.size + 1) (by omega)).trans Ho3.out)
        exact hE4.set2 (by intro z e; cases e) ho4
      have HEf := Lib.hid hEf
      have Hcan := Lib.hid hcan
      have Hle := Lib.hid hle
      clear hb4 hcan hE4 hq4 hqf hEf hle l0 l1
      go_wp2
      refine bodyPost_ret (v := .tuple #[.agg #[.int .i64 (m : Int), .slice a' l c'], .int .i64 0]) (by simp [results, Try.results20, go_sem, i0, i1]) rfl ?_
      exact ⟨below_set2 HB4.out (by omega) _ _, .inr ⟨rfl, qs, m, l, a', c', Hm.out, Hle.out, by rw [Int.toNat_natCast]; exact Hcan.out, by rw [Hl.out]; omega, HEf.out, rfl⟩⟩
end Go.Proofs.Ytopbbihbpalnlaa
