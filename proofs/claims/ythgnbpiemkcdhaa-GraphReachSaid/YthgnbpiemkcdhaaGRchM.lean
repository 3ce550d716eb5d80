/-
  Reachability, and what reversing makes of it, in plain lists.
-/
import Derived.Test.YthgnbpiemkcdhaaGSame
namespace Go.Proofs.Ythgnbpiemkcdhaa
open Go.RowKit Go.Shelf
set_option linter.unusedVariables false

inductive Rch (ps : List (Int × Int)) (v : Int) : Int → Prop
  | refl : Rch ps v v
  | step {u w : Int} : Rch ps v u → (u, w) ∈ ps → Rch ps v w
theorem Rch.trans {ps : List (Int × Int)} {u v w : Int} (h : Rch ps u v) (k : Rch ps v w) : Rch ps u w := by
  induction k with
  | refl => exact h
  | step _ he ih => exact .step ih he
theorem Rch.turn {ps qs : List (Int × Int)} {v w : Int} (hq : ∀ a b, (a, b) ∈ ps → (b, a) ∈ qs) (h : Rch ps v w) : Rch qs w v := by
  induction h with
  | refl => exact .refl
  | step _ he ih => exact Rch.trans (.step .refl (hq _ _ he)) ih

theorem mem_succL {ps : List (Int × Int)} {v x : Int} : x ∈ succL ps v ↔ (v, x) ∈ ps := by
  simp only [succL, List.mem_map, List.mem_filter, decide_eq_true_eq]
  constructor
  · rintro ⟨e, ⟨he, h1⟩, h2⟩
    rw [← h1, ← h2]; exact he
  · intro h; exact ⟨(v, x), ⟨h, rfl⟩, rfl⟩
theorem mem_predL {ps : List (Int × Int)} {v x : Int} : x ∈ predL ps v ↔ (x, v) ∈ ps := by
  simp only [predL, List.mem_map, List.mem_filter, beq_iff_eq]
  constructor
  · rintro ⟨e, ⟨he, h1⟩, h2⟩
    rw [← h1, ← h2]; exact he
  · intro h; exact ⟨(x, v), ⟨h, rfl⟩, rfl⟩

structure WI (N : Nat) (ps : List (Int × Int)) (v : Int) (i : Nat) (st : List Bool × List Int) : Prop where
  inv : RInv N st
  sound : ∀ x ∈ st.2, Rch ps v x
  mark : ∀ x : Int, 0 ≤ x → x < N → st.1.getD x.toNat false = true → x ∈ st.2
  done : ∀ j, j < i → ∀ x, (st.2.getD j 0, x) ∈ ps → x ∈ st.2
  has : v ∈ st.2
  le : i ≤ st.2.length
theorem addR_keeps (st : List Bool × List Int) (x : Int) (k : Nat) (hk : k < st.2.length) : k < (addR st x).2.length ∧ (addR st x).2.getD k 0 = st.2.getD k 0 := by
  unfold addR
  split
  · exact ⟨hk, rfl⟩
  · exact ⟨by simp; omega, by rw [getD_appI, if_pos hk]⟩
theorem addR_sub (st : List Bool × List Int) (x : Int) : ∀ y ∈ st.2, y ∈ (addR st x).2 := fun y hy => by
  unfold addR
  split
  · exact hy
  · exact List.mem_append_left _ hy
theorem getD_setB (l : List Bool) (i j : Nat) (hi : i < l.length) : (l.set i true).getD j false = if i = j then true else l.getD j false := by
  simp only [List.getD_eq_getElem?_getD, List.getElem?_set]
  split
  · next h => subst h; simp
  · rfl
theorem WI.add {N : Nat} {ps : List (Int × Int)} {v : Int} {i : Nat} {st : List Bool × List Int} (h : WI N ps v i st) {x : Int} (h0 : 0 ≤ x) (h1 : x < N) (hx : Rch ps v x) : WI N ps v i (addR st x) ∧ x ∈ (addR st x).2 := by
  have hinv := h.inv.add h0 h1
  have hlt : x.toNat < st.1.length := by rw [h.inv.len]; omega
  have hd : ∀ j, j < i → ∀ y, ((addR st x).2.getD j 0, y) ∈ ps → y ∈ (addR st x).2 := fun j hj y hy => by
    rw [(addR_keeps st x j (by have := h.le; omega)).2] at hy
    exact addR_sub st x y (h.done j hj y hy)
  have hle : i ≤ (addR st x).2.length := by
    rcases Nat.eq_zero_or_pos i with e | e
    · omega
    · have := (addR_keeps st x (i - 1) (by have := h.le; omega)).1; omega
  have hhas := addR_sub st x v h.has
  unfold addR at hinv hd hle hhas ⊢
  by_cases e : st.1.getD x.toNat false = true
  · rw [if_pos e]
    exact ⟨h, h.mark x h0 h1 e⟩
  · rw [if_neg e] at hinv hd hle hhas ⊢
    refine ⟨⟨hinv, fun y hy => ?_, fun y y0 y1 hy => ?_, hd, hhas, hle⟩, by simp⟩
    · rcases List.mem_append.1 hy with hy | hy
      · exact h.sound y hy
      · rw [List.mem_singleton.1 hy]; exact hx
    · show y ∈ st.2 ++ [x]
      by_cases exy : x.toNat = y.toNat
      · have : y = x := by omega
        simp [this]
      · have hy' : (st.1.set x.toNat true).getD y.toNat false = true := hy
        rw [getD_setB _ _ _ hlt, if_neg exy] at hy'
        exact List.mem_append_left _ (h.mark y y0 y1 hy')
theorem foldR_keeps : ∀ (l : List Int) (st : List Bool × List Int) (k : Nat), k < st.2.length → k < (l.foldl addR st).2.length ∧ (l.foldl addR st).2.getD k 0 = st.2.getD k 0
  | [], st, k, hk => ⟨hk, rfl⟩
  | x :: l, st, k, hk => by
    obtain ⟨h1, h2⟩ := addR_keeps st x k hk
    obtain ⟨h3, h4⟩ := foldR_keeps l (addR st x) k h1
    exact ⟨h3, h4.trans h2⟩
theorem foldR_sub : ∀ (l : List Int) (st : List Bool × List Int), ∀ y ∈ st.2, y ∈ (l.foldl addR st).2
  | [], _, _, h => h
  | x :: l, st, y, h => foldR_sub l (addR st x) y (addR_sub st x y h)
theorem WI.fold {N : Nat} {ps : List (Int × Int)} {v : Int} {i : Nat} : ∀ (l : List Int) (st : List Bool × List Int), WI N ps v i st → (∀ x ∈ l, (0 ≤ x ∧ x < (N : Int)) ∧ Rch ps v x) → WI N ps v i (l.foldl addR st) ∧ ∀ x ∈ l, x ∈ (l.foldl addR st).2
  | [], _, h, _ => ⟨h, fun x hx => by simp at hx⟩
  | x :: l, st, h, hl => by
    obtain ⟨h1, h2⟩ := h.add (hl x (by simp)).1.1 (hl x (by simp)).1.2 (hl x (by simp)).2
    obtain ⟨h3, h4⟩ := WI.fold l (addR st x) h1 fun y hy => hl y (List.mem_cons_of_mem _ hy)
    refine ⟨h3, fun y hy => ?_⟩
    rcases List.mem_cons.1 hy with rfl | hy
    · exact foldR_sub l _ _ h2
    · exact h4 y hy
theorem WI.walk {N : Nat} {ps : List (Int × Int)} {v : Int} (hg : GOk N ps) : ∀ (f i : Nat) (st : List Bool × List Int), WI N ps v i st → N + 1 ≤ f + i → WI N ps v (walkR ps f i st).2.length (walkR ps f i st)
  | 0, i, st, h, hf => by
    have := h.inv.cnt; have := h.le
    omega
  | f + 1, i, st, h, hf => by
    by_cases hlt : i < st.2.length
    · rw [walkR_go hlt]
      have hm := mem_getD st.2 i hlt
      obtain ⟨h1, h2⟩ := WI.fold (succL ps (st.2.getD i 0)) st h fun x hx => ⟨succL_node hg x hx, .step (h.sound _ hm) (mem_succL.1 hx)⟩
      refine WI.walk hg f (i + 1) _ ⟨h1.inv, h1.sound, h1.mark, fun j hj x hx => ?_, h1.has, ?_⟩ (by omega)
      · by_cases e : j = i
        · subst e
          have hx' : ((scanR ps st (st.2.getD j 0)).2.getD j 0, x) ∈ ps := hx
          rw [show (scanR ps st (st.2.getD j 0)).2.getD j 0 = st.2.getD j 0 from (foldR_keeps _ st j hlt).2] at hx'
          exact h2 x (mem_succL.2 hx')
        · exact h1.done j (by omega) x hx
      · exact (foldR_keeps _ st i hlt).1
    · have hi : i = st.2.length := by have := h.le; omega
      rw [walkR_end hlt, ← hi]
      exact h
theorem reach_iff {N : Nat} {ps : List (Int × Int)} (hg : GOk N ps) (v w : Int) : w ∈ reachL N ps [v] ↔ isNd (N : Int) v = true ∧ Rch ps v w := by
  unfold reachL reachR
  rw [List.mem_mergeSort]
  simp only [List.length_singleton, Int.toNat_natCast]
  have h0 : startR (N : Int) [v] 1 = if isNd (N : Int) v = true then addR (List.replicate N false, []) v else (List.replicate N false, []) := by
    simp [startR]
  rw [h0]
  by_cases hv : isNd (N : Int) v = true
  · rw [if_pos hv]
    have hn := isNd_iff.1 hv
    have hb : (List.replicate N false).getD v.toNat false = false := by
      simp only [List.getD_eq_getElem?_getD, List.getElem?_replicate]
      split <;> rfl
    have ha : addR (List.replicate N false, []) v = ((List.replicate N false).set v.toNat true, [v]) := by
      unfold addR
      rw [if_neg (by rw [hb]; decide)]
      rfl
    have hi := (RInv.start (N := N) [v] 1)
    rw [h0, if_pos hv, ha] at hi
    rw [ha]
    have hw : WI N ps v 0 ((List.replicate N false).set v.toNat true, [v]) := by
      refine ⟨hi, fun x hx => ?_, fun x x0 x1 hx => ?_, fun j hj => by omega, by simp, Nat.zero_le _⟩
      · rw [List.mem_singleton.1 hx]; exact .refl
      · have hx' : ((List.replicate N false).set v.toNat true).getD x.toNat false = true := hx
        rw [getD_setB _ _ _ (by simp; omega)] at hx'
        by_cases e : v.toNat = x.toNat
        · have : x = v := by omega
          simp [this]
        · rw [if_neg e] at hx'
          simp only [List.getD_eq_getElem?_getD, List.getElem?_replicate] at hx'
          split at hx' <;> cases hx'
    have hW := WI.walk hg (N + 1) 0 _ hw (by omega)
    constructor
    · intro h; exact ⟨hv, hW.sound w h⟩
    · rintro ⟨_, h⟩
      induction h with
      | refl => exact hW.has
      | step _ he ih =>
        obtain ⟨j, hj, e⟩ := List.getElem_of_mem ih
        refine hW.done j hj _ ?_
        simp only [List.getD_eq_getElem?_getD, List.getElem?_eq_getElem hj, Option.getD_some, e]
        exact he
  · rw [if_neg hv, walkR_end (by simp)]
    simp [hv]

theorem mem_turn {ps qs : List (Int × Int)} (hp : qs.Perm (ps.map revE)) (a b : Int) : (a, b) ∈ ps ↔ (b, a) ∈ qs := by
  rw [hp.mem_iff, List.mem_map]
  constructor
  · intro h; exact ⟨(a, b), h, rfl⟩
  · rintro ⟨⟨x, y⟩, h, e⟩
    simp only [revE, Prod.mk.injEq] at e
    obtain ⟨rfl, rfl⟩ := e
    exact h
theorem GOk.turn {N : Int} {ps qs : List (Int × Int)} (h : GOk N ps) (ha : Asc2 qs) (hp : qs.Perm (ps.map revE)) : GOk N qs := by
  refine ⟨h.lo, h.hi, by rw [hp.length_eq, List.length_map]; exact h.len, fun i hi => ?_, fun i hi => ha i (i + 1) (by omega) hi⟩
  have hm : qs.getD i (0, 0) ∈ qs := by simp [List.getD_eq_getElem?_getD, hi]
  obtain ⟨e, he, h2⟩ := List.mem_map.1 (hp.mem_iff.1 hm)
  obtain ⟨j, hj, e2⟩ := List.getElem_of_mem he
  have := h.node j hj
  rw [show ps.getD j (0, 0) = e by simp [List.getD_eq_getElem?_getD, hj, e2]] at this
  rw [← h2]
  exact ⟨this.2, this.1⟩
theorem turn_turn {N : Int} {ps qs rs : List (Int × Int)} (h : GOk N ps) (hp : qs.Perm (ps.map revE)) (ha : Asc2 rs) (hr : rs.Perm (qs.map revE)) : rs = ps := by
  refine Canon.unique (ps := ps) ⟨ha, fun e => ?_⟩ ⟨h.asc2, fun e => Iff.rfl⟩
  obtain ⟨a, b⟩ := e
  rw [← mem_turn hr b a, ← mem_turn hp a b]
theorem Asc2.pairwise {qs : List (Int × Int)} (h : Asc2 qs) : qs.Pairwise (fun a b => ltE a b = true) := by
  rw [List.pairwise_iff_getElem]
  intro i j hi hj hij
  have := h i j hij hj
  simpa [List.getD_eq_getElem?_getD, hi, hj] using this
theorem asc_unique {l m : List Int} (hl : l.Pairwise (· < ·)) (hm : m.Pairwise (· < ·)) (h : ∀ x, x ∈ l ↔ x ∈ m) : l = m := by
  have hA : ∀ (k : List Int), k.Pairwise (· < ·) → Asc2 (k.map fun x => (x, (0 : Int))) := fun k hk i j hij hj => by
    have hj' : j < k.length := by simpa using hj
    have := List.pairwise_iff_getElem.1 hk i j (by omega) hj' hij
    rw [ltE_iff]
    left
    simpa [List.getD_eq_getElem?_getD, hj', show i < k.length by omega] using this
  have e := Canon.unique (ps := m.map fun x => (x, (0 : Int))) (qs := l.map fun x => (x, (0 : Int))) (rs := m.map fun x => (x, (0 : Int))) ⟨hA l hl, fun e => by
    simp only [List.mem_map]
    constructor
    · rintro ⟨x, hx, rfl⟩; exact ⟨x, (h x).1 hx, rfl⟩
    · rintro ⟨x, hx, rfl⟩; exact ⟨x, (h x).2 hx, rfl⟩⟩ ⟨hA m hm, fun e => Iff.rfl⟩
  have := congrArg (List.map Prod.fst) e
  simpa [List.map_map, Function.comp_def] using this
theorem succ_pred {ps qs : List (Int × Int)} (hps : Asc2 ps) (hqs : Asc2 qs) (hp : qs.Perm (ps.map revE)) (v : Int) : succL qs v = predL ps v := by
  refine asc_unique ?_ ?_ fun x => by rw [mem_succL, mem_predL, mem_turn hp]
  · unfold succL
    rw [List.pairwise_map]
    refine List.Pairwise.imp_of_mem (fun {a b} ha hb hab => ?_) (hqs.pairwise.filter _)
    have h1 := (List.mem_filter.1 ha).2
    have h2 := (List.mem_filter.1 hb).2
    rw [ltE_iff] at hab
    simp only [decide_eq_true_eq] at h1 h2
    omega
  · unfold predL
    rw [List.pairwise_map]
    refine List.Pairwise.imp_of_mem (fun {a b} ha hb hab => ?_) (hps.pairwise.filter _)
    have h1 := (List.mem_filter.1 ha).2
    have h2 := (List.mem_filter.1 hb).2
    rw [ltE_iff] at hab
    simp only [beq_iff_eq] at h1 h2
    omega
/-- Reachability is reversed. -/
theorem reach_turn {N : Nat} {ps qs : List (Int × Int)} (hg : GOk N ps) (ha : Asc2 qs) (hp : qs.Perm (ps.map revE)) (v w : Int) : (reachL N ps [v]).contains w = (reachL N qs [w]).contains v := by
  have hnd : ∀ {ps : List (Int × Int)}, GOk (N : Int) ps → ∀ {v w : Int}, isNd (N : Int) v = true → Rch ps v w → isNd (N : Int) w = true := fun {ps} hg {v w} hv h => by
    cases h with
    | refl => exact hv
    | @step u _ _ he =>
      obtain ⟨j, hj, e⟩ := List.getElem_of_mem he
      have := (hg.node j hj).2
      rw [show ps.getD j (0, 0) = (u, w) by simp [List.getD_eq_getElem?_getD, hj, e]] at this
      exact isNd_iff.2 this
  have hq := hg.turn ha hp
  rw [Bool.eq_iff_iff, List.contains_iff_mem, List.contains_iff_mem, reach_iff hg, reach_iff hq]
  constructor
  · rintro ⟨h1, h2⟩
    exact ⟨hnd hg h1 h2, h2.turn fun a b h => (mem_turn hp a b).1 h⟩
  · rintro ⟨h1, h2⟩
    exact ⟨hnd hq h1 h2, h2.turn fun a b h => (mem_turn hp b a).2 h⟩
end Go.Proofs.Ythgnbpiemkcdhaa
