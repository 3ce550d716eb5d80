/-
  What is reachable from some nodes, in plain lists; and what the distances say of it.
-/
import Derived.Test.YthgnbpiemkcdhaaGDistM
import Derived.Test.YthgnbpiemkcdhaaGOrderM
namespace Go.Proofs.Ythgnbpiemkcdhaa
open Go.RowKit Go.Shelf
set_option linter.unusedVariables false

structure WT (N : Nat) (ps : List (Int × Int)) (T : Int → Prop) (i : Nat) (st : List Bool × List Int) : Prop where
  inv : RInv N st
  sound : ∀ x ∈ st.2, T x
  mark : ∀ x : Int, 0 ≤ x → x < N → st.1.getD x.toNat false = true → x ∈ st.2
  done : ∀ j, j < i → ∀ x, (st.2.getD j 0, x) ∈ ps → x ∈ st.2
  le : i ≤ st.2.length
theorem WT.add {N : Nat} {ps : List (Int × Int)} {T : Int → Prop} {i : Nat} {st : List Bool × List Int} (h : WT N ps T i st) {x : Int} (h0 : 0 ≤ x) (h1 : x < N) (hx : T x) : WT N ps T i (addR st x) ∧ x ∈ (addR st x).2 := by
  have hinv := h.inv.add h0 h1
  have hlt : x.toNat < st.1.length := by rw [h.inv.len]; omega
  have hd : ∀ j, j < i → ∀ y, ((addR st x).2.getD j 0, y) ∈ ps → y ∈ (addR st x).2 := fun j hj y hy => by
    rw [(addR_keeps st x j (by have := h.le; omega)).2] at hy
    exact addR_sub st x y (h.done j hj y hy)
  have hle : i ≤ (addR st x).2.length := by
    rcases Nat.eq_zero_or_pos i with e | e
    · omega
    · have := (addR_keeps st x (i - 1) (by have := h.le; omega)).1; omega
  unfold addR at hinv hd hle ⊢
  by_cases e : st.1.getD x.toNat false = true
  · rw [if_pos e]
    exact ⟨h, h.mark x h0 h1 e⟩
  · rw [if_neg e] at hinv hd hle ⊢
    refine ⟨⟨hinv, fun y hy => ?_, fun y y0 y1 hy => ?_, hd, hle⟩, by simp⟩
    · rcases List.mem_append.1 hy with hy | hy
      · exact h.sound y hy
      · rw [List.mem_singleton.1 hy]; exact hx
    · show y ∈ st.2 ++ [x]
      by_cases exy : x.toNat = y.toNat
      · have : y = x := by omega
        simp [this]
      · have hy' : (st.1.set x.toNat true).getD y.toNat false = true := hy
        rw [getD_setB _ _ _ hlt, if_neg exy] at hy'
        exact List.mem_append_left _ (h.mark y y0 y1 hy')
theorem WT.fold {N : Nat} {ps : List (Int × Int)} {T : Int → Prop} {i : Nat} : ∀ (l : List Int) (st : List Bool × List Int), WT N ps T i st → (∀ x ∈ l, (0 ≤ x ∧ x < (N : Int)) ∧ T x) → WT N ps T i (l.foldl addR st) ∧ ∀ x ∈ l, x ∈ (l.foldl addR st).2
  | [], _, h, _ => ⟨h, fun x hx => by simp at hx⟩
  | x :: l, st, h, hl => by
    obtain ⟨h1, h2⟩ := h.add (hl x (by simp)).1.1 (hl x (by simp)).1.2 (hl x (by simp)).2
    obtain ⟨h3, h4⟩ := WT.fold l (addR st x) h1 fun y hy => hl y (List.mem_cons_of_mem _ hy)
    refine ⟨h3, fun y hy => ?_⟩
    rcases List.mem_cons.1 hy with rfl | hy
    · exact foldR_sub l _ _ h2
    · exact h4 y hy
theorem WT.walk {N : Nat} {ps : List (Int × Int)} {T : Int → Prop} (hg : GOk N ps) (hT : ∀ u x, T u → (u, x) ∈ ps → T x) : ∀ (f i : Nat) (st : List Bool × List Int), WT N ps T i st → N + 1 ≤ f + i → WT N ps T (walkR ps f i st).2.length (walkR ps f i st) ∧ ∀ y ∈ st.2, y ∈ (walkR ps f i st).2
  | 0, i, st, h, hf => by
    have := h.inv.cnt; have := h.le
    omega
  | f + 1, i, st, h, hf => by
    by_cases hlt : i < st.2.length
    · rw [walkR_go hlt]
      have hm := mem_getD st.2 i hlt
      obtain ⟨h1, h2⟩ := WT.fold (succL ps (st.2.getD i 0)) st h fun x hx => ⟨succL_node hg x hx, hT _ _ (h.sound _ hm) (mem_succL.1 hx)⟩
      have := WT.walk hg hT f (i + 1) (scanR ps st (st.2.getD i 0)) ⟨h1.inv, h1.sound, h1.mark, fun j hj x hx => ?_, ?_⟩ (by omega)
      · exact ⟨this.1, fun y hy => this.2 y (foldR_sub _ _ y hy)⟩
      · by_cases e : j = i
        · subst e
          have hx' : ((scanR ps st (st.2.getD j 0)).2.getD j 0, x) ∈ ps := hx
          rw [show (scanR ps st (st.2.getD j 0)).2.getD j 0 = st.2.getD j 0 from (foldR_keeps _ st j hlt).2] at hx'
          exact h2 x (mem_succL.2 hx')
        · exact h1.done j (by omega) x hx
      · exact (foldR_keeps _ st i hlt).1
    · have hi : i = st.2.length := by have := h.le; omega
      rw [walkR_end hlt, ← hi]
      exact ⟨h, fun _ h => h⟩
def FromN (N : Nat) (ps : List (Int × Int)) (zs : List Int) (x : Int) : Prop := ∃ z ∈ zs, isNd (N : Int) z = true ∧ Rch ps z x
theorem startT {N : Nat} {ps : List (Int × Int)} {zs : List Int} : ∀ k, k ≤ zs.length → WT N ps (FromN N ps zs) 0 (startR (N : Int) zs k) ∧ ∀ z ∈ zs.take k, isNd (N : Int) z = true → z ∈ (startR (N : Int) zs k).2
  | 0, _ => by
    refine ⟨⟨RInv.start zs 0, fun x hx => by simp [startR] at hx, fun x x0 x1 hx => ?_, fun j hj => by omega, Nat.zero_le _⟩, fun z hz => by simp at hz⟩
    have hx' : (List.replicate (N : Int).toNat false).getD x.toNat false = true := hx
    simp only [List.getD_eq_getElem?_getD, List.getElem?_replicate] at hx'
    split at hx' <;> cases hx'
  | k + 1, hk => by
    obtain ⟨h1, h2⟩ := startT (N := N) (ps := ps) (zs := zs) k (by omega)
    have hm : zs.getD k 0 ∈ zs := mem_getD zs k (by omega)
    show WT N ps _ 0 (if isNd (N : Int) (zs.getD k 0) = true then _ else _) ∧ ∀ z ∈ zs.take (k + 1), _ → z ∈ (if isNd (N : Int) (zs.getD k 0) = true then _ else _ : List Bool × List Int).2
    by_cases hn : isNd (N : Int) (zs.getD k 0) = true
    · rw [if_pos hn]
      have hn2 := isNd_iff.1 hn
      obtain ⟨h3, h4⟩ := h1.add hn2.1 hn2.2 ⟨_, hm, hn, .refl⟩
      refine ⟨h3, fun z hz hz2 => ?_⟩
      rcases mem_take_succ (by omega) hz with h | h
      · exact addR_sub _ _ _ (h2 z h hz2)
      · rw [h]; exact h4
    · rw [if_neg hn]
      refine ⟨h1, fun z hz hz2 => ?_⟩
      rcases mem_take_succ (by omega) hz with h | h
      · exact h2 z h hz2
      · rw [h] at hz2; exact absurd hz2 hn
theorem reach_from {N : Nat} {ps : List (Int × Int)} (hg : GOk N ps) (zs : List Int) (w : Int) : w ∈ reachL N ps zs ↔ FromN N ps zs w := by
  unfold reachL reachR
  rw [List.mem_mergeSort, Int.toNat_natCast]
  obtain ⟨h1, h2⟩ := startT (N := N) (ps := ps) (zs := zs) zs.length (Nat.le_refl _)
  obtain ⟨h3, h4⟩ := WT.walk hg (fun u x ⟨z, hz, hn, hr⟩ he => ⟨z, hz, hn, .step hr he⟩) (N + 1) 0 _ h1 (by omega)
  refine ⟨h3.sound w, fun hf => ?_⟩
  obtain ⟨z, hz, hn, hr⟩ := hf
  have hz4 := h4 _ (h2 z (by rw [List.take_length]; exact hz) hn)
  clear hz hn h1 h2
  induction hr with
  | refl => exact hz4
  | step _ he ih =>
    obtain ⟨j, hj, e⟩ := List.getElem_of_mem ih
    refine h3.done j hj _ ?_
    simp only [List.getD_eq_getElem?_getD, List.getElem?_eq_getElem hj, Option.getD_some, e]
    exact he
theorem reachL_asc {N : Nat} {ps : List (Int × Int)} (hg : GOk (N : Int) ps) (zs : List Int) : (reachL (N : Int) ps zs).Pairwise (· < ·) := by
  have hn := reachL_nodup hg zs
  have hs : (reachL (N : Int) ps zs).Pairwise (fun x y => decide (x ≤ y) = true) := by
    unfold reachL
    exact List.pairwise_mergeSort (fun a b c h1 h2 => by simp only [decide_eq_true_eq] at *; omega) (fun a b => by simp only [Bool.or_eq_true, decide_eq_true_eq]; omega) _
  refine List.Pairwise.imp₂ (fun {a b} h1 h2 => ?_) hs hn
  simp only [decide_eq_true_eq] at h1
  have h3 : a ≠ b := h2
  omega

/-- The nodes below k that have a distance. -/
def posI (out : List Int) (k : Nat) : List Int := ((List.range k).filter (fun i => decide (0 ≤ out.getD i 0))).map (fun i : Nat => (i : Int))
theorem posI_succ (out : List Int) (k : Nat) : posI out (k + 1) = posI out k ++ (if 0 ≤ out.getD k 0 then [(k : Int)] else []) := by
  unfold posI
  rw [List.range_succ, List.filter_append, List.map_append]
  congr 1
  by_cases h : 0 ≤ out.getD k 0
  · rw [if_pos h, List.filter_cons_of_pos (by simpa using h)]; rfl
  · rw [if_neg h, List.filter_cons_of_neg (by simpa using h)]; rfl
theorem length_posI (out : List Int) (k : Nat) : (posI out k).length ≤ k := by
  unfold posI
  rw [List.length_map]
  exact Nat.le_trans (List.length_filter_le _ _) (by simp)
theorem posI_asc (out : List Int) (k : Nat) : (posI out k).Pairwise (· < ·) := by
  unfold posI
  rw [List.pairwise_map]
  exact List.Pairwise.imp (fun {a b} h => by omega) (List.pairwise_lt_range.filter _)
theorem mem_posI {out : List Int} {k : Nat} {x : Int} : x ∈ posI out k ↔ 0 ≤ x ∧ x < k ∧ 0 ≤ out.getD x.toNat 0 := by
  unfold posI
  simp only [List.mem_map, List.mem_filter, List.mem_range, decide_eq_true_eq]
  constructor
  · rintro ⟨i, ⟨h1, h2⟩, rfl⟩
    exact ⟨by omega, by omega, by rw [Int.toNat_natCast]; exact h2⟩
  · rintro ⟨h0, h1, h2⟩
    exact ⟨x.toNat, ⟨by omega, h2⟩, by omega⟩
theorem rch_node {N : Nat} {ps : List (Int × Int)} (hg : GOk (N : Int) ps) {z x : Int} (hn : isNd (N : Int) z = true) (h : Rch ps z x) : 0 ≤ x ∧ x < N := by
  cases h with
  | refl => exact isNd_iff.1 hn
  | step _ he => exact succL_node hg x (mem_succL.2 he)
theorem DistOf.from_iff {N : Nat} {ps : List (Int × Int)} {zs out : List Int} (h : DistOf N ps zs out) {x : Int} (h0 : 0 ≤ x) (h1 : x < N) : 0 ≤ out.getD x.toNat 0 ↔ FromN N ps zs x := by
  constructor
  · intro hx
    obtain ⟨z, hz, hn, hw⟩ := h.path x h0 h1 hx
    exact ⟨z, hz, hn, hw.rch⟩
  · rintro ⟨z, hz, hn, hr⟩
    obtain ⟨m, hw⟩ := hr.wk
    exact (h.least z hz hn m x hw).1
theorem reach_dist {N : Nat} {ps : List (Int × Int)} {zs out : List Int} (hg : GOk (N : Int) ps) (h : DistOf N ps zs out) : posI out N = reachL (N : Int) ps zs := by
  refine asc_unique (posI_asc _ _) (reachL_asc hg zs) fun x => ?_
  rw [mem_posI, reach_from hg]
  constructor
  · rintro ⟨h0, h1, h2⟩
    exact (h.from_iff h0 h1).1 h2
  · intro hf
    obtain ⟨z, hz, hn, hr⟩ := hf
    obtain ⟨h0, h1⟩ := rch_node hg hn hr
    exact ⟨h0, h1, (h.from_iff h0 h1).2 ⟨z, hz, hn, hr⟩⟩
end Go.Proofs.Ythgnbpiemkcdhaa
