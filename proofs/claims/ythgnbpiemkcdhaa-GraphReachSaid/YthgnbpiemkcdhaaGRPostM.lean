/-
  The search with a stack of its own is the search of the closure: in plain lists.
-/
import Derived.Test.YthgnbpiemkcdhaaGOrderM
namespace Go.Proofs.Ythgnbpiemkcdhaa
open Go.RowKit Go.Shelf
set_option linter.unusedVariables false

theorem foldD_fuel {N f f' : Nat} {ps : List (Int × Int)} (hg : GOk (N : Int) ps)
    (hV : ∀ (B : Nat) (v : Int) (st : List Bool × List Int), 0 ≤ v → v < N → st.1.getD v.toNat false = false → DOk N f B st → DOk N f' B st → dfsV ps f v st = dfsV ps f' v st) : ∀ (B : Nat) (l : List Int) (s : List Bool × List Int), (∀ x ∈ l, 0 ≤ x ∧ x < (N : Int)) → DOk N f B s → DOk N f' B s → foldD ps f l s = foldD ps f' l s
  | _, [], s, _, _, _ => rfl
  | B, x :: l, s, hl, h, h' => by
    show foldD ps f l (stepD ps f s x) = foldD ps f' l (stepD ps f' s x)
    have hx := hl x (by simp)
    have e : stepD ps f s x = stepD ps f' s x := by
      unfold stepD
      by_cases e : s.1.getD x.toNat false = true
      · rw [if_pos e, if_pos e]
      · rw [if_neg e, if_neg e]
        exact hV B x s hx.1 hx.2 (by simpa using e) h h'
    have h2 := h.step hg hx.1 hx.2
    have h3 := h'.step hg hx.1 hx.2
    rw [e] at h2 ⊢
    exact foldD_fuel hg hV B l _ (fun y hy => hl y (List.mem_cons_of_mem _ hy)) h2 h3
theorem dfs_fuel {N : Nat} {ps : List (Int × Int)} (hg : GOk (N : Int) ps) : ∀ (f f' B : Nat) (v : Int) (st : List Bool × List Int), 0 ≤ v → v < N → st.1.getD v.toNat false = false → DOk N f B st → DOk N f' B st → dfsV ps f v st = dfsV ps f' v st
  | 0, _, B, v, st, h0, h1, hu, h, _ => by
    have hc := cntU_set (bs := st.1) (i := v.toNat) (by rw [h.len]; omega) hu
    have := h.cnt
    omega
  | f + 1, 0, B, v, st, h0, h1, hu, _, h => by
    have hc := cntU_set (bs := st.1) (i := v.toNat) (by rw [h.len]; omega) hu
    have := h.cnt
    omega
  | f + 1, f' + 1, B, v, st, h0, h1, hu, h, h' => by
    rw [dfsV_succ, dfsV_succ, foldD_fuel hg (fun B v st => dfs_fuel hg f f' B v st) (B - 1) (succL ps v) _ (fun x hx => succL_node hg x hx) (h.mark h0 h1 hu).1 (h'.mark h0 h1 hu).1]
/-- What is left of the search when these frames (the topmost first) are open. -/
def runS (N : Nat) (ps : List (Int × Int)) : List (Int × Nat) → List Bool × List Int → List Bool × List Int
  | [], st => st
  | (v, k) :: r, st => runS N ps r ((foldD ps N ((succL ps v).drop k) st).1, (foldD ps N ((succL ps v).drop k) st).2 ++ [v])
theorem drop_atI {A : List Int} {i : Nat} (h : i < A.length) : A.drop i = A.getD i 0 :: A.drop (i + 1) := by
  rw [List.drop_eq_getElem_cons h]; simp [List.getD_eq_getElem?_getD, h]
section
variable {N : Nat} {ps : List (Int × Int)} {v w : Int} {k : Nat} {r : List (Int × Nat)} {st : List Bool × List Int}
theorem runS_pop (hk : (succL ps v).length ≤ k) : runS N ps ((v, k) :: r) st = runS N ps r (st.1, st.2 ++ [v]) := by
  show runS N ps r _ = _
  rw [List.drop_eq_nil_of_le hk]; rfl
theorem runS_skip (hk : k < (succL ps v).length) (hw : (succL ps v).getD k 0 = w) (hs : st.1.getD w.toNat false = true) : runS N ps ((v, k) :: r) st = runS N ps ((v, k + 1) :: r) st := by
  show runS N ps r _ = runS N ps r _
  have e : foldD ps N ((succL ps v).drop k) st = foldD ps N ((succL ps v).drop (k + 1)) st := by
    rw [drop_atI hk, hw]
    show foldD ps N _ (stepD ps N st w) = _
    unfold stepD
    rw [if_pos hs]
  rw [e]
theorem runS_push {B : Nat} (hg : GOk (N : Int) ps) (hk : k < (succL ps v).length) (hw : (succL ps v).getD k 0 = w) (h0 : 0 ≤ w) (h1 : w < N) (hs : st.1.getD w.toNat false = false) (hd : DOk N N B st) :
    runS N ps ((v, k) :: r) st = runS N ps ((w, 0) :: (v, k + 1) :: r) (st.1.set w.toNat true, st.2) := by
  obtain ⟨M, rfl⟩ : ∃ M, N = M + 1 := ⟨N - 1, by omega⟩
  obtain ⟨hm, _⟩ := hd.mark h0 h1 hs
  have hm' : DOk (M + 1) (M + 1) (B - 1) (st.1.set w.toNat true, st.2) := ⟨hm.len, Nat.le_succ_of_le hm.cnt, hm.sum⟩
  have e : dfsV ps (M + 1) w st = ((foldD ps (M + 1) (succL ps w) (st.1.set w.toNat true, st.2)).1, (foldD ps (M + 1) (succL ps w) (st.1.set w.toNat true, st.2)).2 ++ [w]) := by
    rw [dfsV_succ, foldD_fuel hg (fun B v st => dfs_fuel hg M (M + 1) B v st) (B - 1) (succL ps w) _ (fun x hx => succL_node hg x hx) hm hm']
  have e2 : foldD ps (M + 1) ((succL ps v).drop k) st = foldD ps (M + 1) ((succL ps v).drop (k + 1)) (dfsV ps (M + 1) w st) := by
    rw [drop_atI hk, hw]
    show foldD ps (M + 1) _ (stepD ps (M + 1) st w) = _
    unfold stepD
    rw [if_neg (by rw [hs]; decide)]
  show runS (M + 1) ps r _ = runS (M + 1) ps r _
  rw [e2, e]
  rfl
theorem runS_start (hg : GOk (N : Int) ps) {root : Int} (h0 : 0 ≤ root) (h1 : root < N) : runS N ps [(root, 0)] ((List.replicate N false).set root.toNat true, []) = dfsV ps N root (List.replicate N false, []) := by
  obtain ⟨M, rfl⟩ : ∃ M, N = M + 1 := ⟨N - 1, by omega⟩
  have hu : (List.replicate (M + 1) false).getD root.toNat false = false := by
    have := seen_start (M + 1) root
    unfold seenD at this
    simpa using this
  obtain ⟨hm, _⟩ := (dok_start (M + 1)).mark h0 h1 hu
  have hm' : DOk (M + 1) (M + 1) (M + 1 - 1) ((List.replicate (M + 1) false).set root.toNat true, ([] : List Int)) := ⟨hm.len, Nat.le_succ_of_le hm.cnt, hm.sum⟩
  rw [dfsV_succ, foldD_fuel hg (fun B v st => dfs_fuel hg M (M + 1) B v st) (M + 1 - 1) (succL ps root) _ (fun x hx => succL_node hg x hx) hm hm']
  rfl
end

/-- The edges that the nodes not seen yet bear. -/
def usum (N : Nat) (ps : List (Int × Int)) (bs : List Bool) : Nat := ((List.range N).map fun i => if bs.getD i false = true then 0 else (succL ps (i : Nat)).length).sum
theorem sum_set {f g : Nat → Nat} {x c : Nat} : ∀ (l : List Nat), l.Nodup → x ∈ l → (∀ i ∈ l, i ≠ x → f i = g i) → f x + c = g x → (l.map f).sum + c = (l.map g).sum
  | [], _, h, _, _ => by simp at h
  | a :: l, hn, h, he, hx => by
    have hn' := List.nodup_cons.1 hn
    simp only [List.map_cons, List.sum_cons]
    by_cases e : a = x
    · subst e
      have : l.map f = l.map g := List.map_congr_left fun i hi => he i (List.mem_cons_of_mem _ hi) fun e => hn'.1 (e ▸ hi)
      rw [this]; omega
    · have h2 : x ∈ l := by
        rcases List.mem_cons.1 h with h | h
        · exact absurd h.symm e
        · exact h
      have := sum_set l hn'.2 h2 (fun i hi => he i (List.mem_cons_of_mem _ hi)) hx
      have h3 := he a (by simp) e
      omega
theorem usum_mark {N : Nat} {ps : List (Int × Int)} {bs : List Bool} {x : Nat} (hl : bs.length = N) (hx : x < N) (hu : bs.getD x false = false) : usum N ps (bs.set x true) + (succL ps (x : Int)).length = usum N ps bs := by
  unfold usum
  refine sum_set (x := x) _ List.nodup_range (by simpa using hx) (fun i hi hne => ?_) ?_
  · rw [getD_setB _ _ _ (by omega), if_neg (show ¬ x = i from fun e => hne e.symm)]
  · rw [getD_setB _ _ _ (by omega), if_pos rfl, if_pos rfl, hu]
    simp
/-- The edges that the open frames have still to follow. -/
def fsum (ps : List (Int × Int)) (fr : List (Int × Nat)) : Nat := (fr.map fun e => (succL ps e.1).length - e.2).sum
theorem fsum_snoc (ps : List (Int × Int)) (fr : List (Int × Nat)) (e : Int × Nat) : fsum ps (fr ++ [e]) = fsum ps fr + ((succL ps e.1).length - e.2) := by simp [fsum, List.sum_append]

/-- The state of the search with a stack: the frames (the lowest first), what is seen and what is written. -/
structure PI (N : Nat) (ps : List (Int × Int)) (fin : List Bool × List Int) (fr : List (Int × Nat)) (st : List Bool × List Int) (gk : Nat) : Prop where
  run : runS N ps fr.reverse st = fin
  node : ∀ e ∈ fr, 0 ≤ e.1 ∧ e.1 < (N : Int)
  edge : ∀ e ∈ fr, e.2 ≤ (succL ps e.1).length
  len : st.1.length = N
  cnt : st.2.length + fr.length + cntU st.1 = N
  meas : gk = 2 * (usum N ps st.1 + fsum ps fr) + fr.length
section
variable {N : Nat} {ps : List (Int × Int)} {fin : List Bool × List Int} {fr : List (Int × Nat)} {st : List Bool × List Int} {gk : Nat} {v w : Int} {k : Nat}
theorem PI.pop (h : PI N ps fin (fr ++ [(v, k)]) st gk) (hk : k = (succL ps v).length) : ∃ g, g < gk ∧ PI N ps fin fr (st.1, st.2 ++ [v]) g := by
  have hm := h.meas
  have hc := h.cnt
  rw [fsum_snoc, List.length_append, List.length_singleton] at hm
  rw [List.length_append, List.length_singleton] at hc
  refine ⟨_, ?_, ⟨?_, fun e he => h.node e (List.mem_append_left _ he), fun e he => h.edge e (List.mem_append_left _ he), h.len, ?_, rfl⟩⟩
  · show 2 * (usum N ps st.1 + fsum ps fr) + fr.length < gk
    simp only at hm
    omega
  · have := h.run
    rw [List.reverse_append, List.reverse_singleton, List.singleton_append, runS_pop (by omega)] at this
    exact this
  · rw [List.length_append, List.length_singleton]; show _ + _ + cntU st.1 = N; omega
theorem PI.skip (h : PI N ps fin (fr ++ [(v, k)]) st gk) (hk : k < (succL ps v).length) (hw : (succL ps v).getD k 0 = w) (hs : st.1.getD w.toNat false = true) : ∃ g, g < gk ∧ PI N ps fin (fr ++ [(v, k + 1)]) st g := by
  have hm := h.meas
  have hc := h.cnt
  rw [fsum_snoc, List.length_append, List.length_singleton] at hm
  rw [List.length_append, List.length_singleton] at hc
  refine ⟨_, ?_, ⟨?_, fun e he => ?_, fun e he => ?_, h.len, ?_, rfl⟩⟩
  · rw [fsum_snoc, List.length_append, List.length_singleton]
    simp only at hm ⊢
    omega
  · have := h.run
    rw [List.reverse_append, List.reverse_singleton, List.singleton_append, runS_skip hk hw hs] at this
    rw [List.reverse_append, List.reverse_singleton, List.singleton_append]
    exact this
  · rcases List.mem_append.1 he with he | he
    · exact h.node e (List.mem_append_left _ he)
    · rw [List.mem_singleton.1 he]; exact h.node (v, k) (by simp)
  · rcases List.mem_append.1 he with he | he
    · exact h.edge e (List.mem_append_left _ he)
    · rw [List.mem_singleton.1 he]; exact hk
  · rw [List.length_append, List.length_singleton]; exact hc
theorem PI.dok (h : PI N ps fin fr st gk) : DOk N N (st.2.length + cntU st.1) st := ⟨h.len, by have := h.cnt; omega, rfl⟩
theorem PI.push (hg : GOk (N : Int) ps) (h : PI N ps fin (fr ++ [(v, k)]) st gk) (hk : k < (succL ps v).length) (hw : (succL ps v).getD k 0 = w) (h0 : 0 ≤ w) (h1 : w < N) (hs : st.1.getD w.toNat false = false) : ∃ g, g < gk ∧ PI N ps fin (fr ++ [(v, k + 1)] ++ [(w, 0)]) (st.1.set w.toNat true, st.2) g := by
  have hm := h.meas
  have hc := h.cnt
  rw [fsum_snoc, List.length_append, List.length_singleton] at hm
  rw [List.length_append, List.length_singleton] at hc
  have hcs := cntU_set (bs := st.1) (i := w.toNat) (by rw [h.len]; omega) hs
  have hus := usum_mark (ps := ps) (bs := st.1) (x := w.toNat) h.len (by omega) hs
  rw [show ((w.toNat : Nat) : Int) = w by omega] at hus
  refine ⟨_, ?_, ⟨?_, fun e he => ?_, fun e he => ?_, by simpa using h.len, ?_, rfl⟩⟩
  · rw [fsum_snoc, fsum_snoc]
    simp only [List.length_append, List.length_singleton] at hm ⊢
    omega
  · have := h.run
    rw [List.reverse_append, List.reverse_singleton, List.singleton_append, runS_push hg hk hw h0 h1 hs h.dok] at this
    rw [List.reverse_append, List.reverse_singleton, List.singleton_append, List.reverse_append, List.reverse_singleton, List.singleton_append]
    exact this
  · rcases List.mem_append.1 he with he | he
    · rcases List.mem_append.1 he with he | he
      · exact h.node e (List.mem_append_left _ he)
      · rw [List.mem_singleton.1 he]; exact h.node (v, k) (by simp)
    · rw [List.mem_singleton.1 he]; exact ⟨h0, h1⟩
  · rcases List.mem_append.1 he with he | he
    · rcases List.mem_append.1 he with he | he
      · exact h.edge e (List.mem_append_left _ he)
      · rw [List.mem_singleton.1 he]; exact hk
    · rw [List.mem_singleton.1 he]; exact Nat.zero_le _
  · simp only [List.length_append, List.length_singleton]
    show st.2.length + _ + cntU (st.1.set w.toNat true) = N
    omega
end
theorem PI.start {N : Nat} {ps : List (Int × Int)} (hg : GOk (N : Int) ps) {root : Int} (h0 : 0 ≤ root) (h1 : root < N) : ∃ g, PI N ps (dfsV ps N root (List.replicate N false, [])) [(root, 0)] ((List.replicate N false).set root.toNat true, []) g := by
  have hu : (List.replicate N false).getD root.toNat false = false := by
    have := seen_start N root
    unfold seenD at this
    simpa using this
  have hcs := cntU_set (bs := List.replicate N false) (i := root.toNat) (by simp; omega) hu
  have hc0 : cntU (List.replicate N false) = N := by simp [cntU, List.countP_replicate]
  refine ⟨_, runS_start hg h0 h1, fun e he => ?_, fun e he => ?_, by simp, ?_, rfl⟩
  · rw [List.mem_singleton.1 he]; exact ⟨h0, h1⟩
  · rw [List.mem_singleton.1 he]; exact Nat.zero_le _
  · show 0 + 1 + cntU ((List.replicate N false).set root.toNat true) = N
    omega
end Go.Proofs.Ythgnbpiemkcdhaa
