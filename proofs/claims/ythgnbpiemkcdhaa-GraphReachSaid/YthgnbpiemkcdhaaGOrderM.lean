/-
  The postorder: each node that is reachable once, the root last, and behind all that its edges lead to, where all edges lead down.
-/
import Derived.Test.YthgnbpiemkcdhaaGDfsM
namespace Go.Proofs.Ythgnbpiemkcdhaa
open Go.RowKit Go.Shelf
set_option linter.unusedVariables false

def seenD (st : List Bool × List Int) (x : Int) : Prop := st.1.getD x.toNat false = true
/-- From st to st' the nodes of l were seen and left, in this order. -/
structure DR (N : Nat) (ps : List (Int × Int)) (st st' : List Bool × List Int) (l : List Int) : Prop where
  out : st'.2 = st.2 ++ l
  nd : l.Nodup
  node : ∀ x ∈ l, 0 ≤ x ∧ x < (N : Int)
  mem : ∀ x, 0 ≤ x → x < (N : Int) → (x ∈ l ↔ seenD st' x ∧ ¬ seenD st x)
  mono : ∀ x, 0 ≤ x → x < (N : Int) → seenD st x → seenD st' x
  clos : ∀ x ∈ l, ∀ y, (x, y) ∈ ps → seenD st' y
theorem DR.refl (N : Nat) (ps : List (Int × Int)) (st : List Bool × List Int) : DR N ps st st [] := ⟨by simp, by simp, by simp, fun x _ _ => by simp, fun _ _ _ h => h, by simp⟩
theorem edge_node {N : Int} {ps : List (Int × Int)} (hg : GOk N ps) {x y : Int} (h : (x, y) ∈ ps) : (0 ≤ x ∧ x < N) ∧ 0 ≤ y ∧ y < N := by
  obtain ⟨j, hj, e⟩ := List.getElem_of_mem h
  have := hg.node j hj
  rwa [show ps.getD j (0, 0) = (x, y) by simp [List.getD_eq_getElem?_getD, hj, e]] at this
theorem DR.trans {N : Nat} {ps : List (Int × Int)} (hg : GOk (N : Int) ps) {a b c : List Bool × List Int} {l m : List Int} (h : DR N ps a b l) (k : DR N ps b c m) : DR N ps a c (l ++ m) := by
  refine ⟨by rw [k.out, h.out, List.append_assoc], ?_, fun x hx => ?_, fun x x0 x1 => ?_, fun x x0 x1 hs => k.mono x x0 x1 (h.mono x x0 x1 hs), fun x hx y hy => ?_⟩
  · rw [List.nodup_append]
    refine ⟨h.nd, k.nd, fun x hx y hy e => ?_⟩
    subst e
    have hn := h.node x hx
    exact ((k.mem x hn.1 hn.2).1 hy).2 ((h.mem x hn.1 hn.2).1 hx).1
  · rcases List.mem_append.1 hx with hx | hx
    · exact h.node x hx
    · exact k.node x hx
  · rw [List.mem_append, h.mem x x0 x1, k.mem x x0 x1]
    constructor
    · rintro (⟨h1, h2⟩ | ⟨h1, h2⟩)
      · exact ⟨k.mono x x0 x1 h1, h2⟩
      · exact ⟨h1, fun e => h2 (h.mono x x0 x1 e)⟩
    · rintro ⟨h1, h2⟩
      by_cases e : seenD b x
      · exact .inl ⟨e, h2⟩
      · exact .inr ⟨h1, e⟩
  · rcases List.mem_append.1 hx with hx | hx
    · have hn := (edge_node hg hy).2
      exact k.mono y hn.1 hn.2 (h.clos x hx y hy)
    · exact k.clos x hx y hy
theorem seen_set {N : Nat} {st : List Bool × List Int} {v x : Int} (hlen : st.1.length = N) (h0 : 0 ≤ v) (h1 : v < N) (x0 : 0 ≤ x) : seenD (st.1.set v.toNat true, st.2) x ↔ x = v ∨ seenD st x := by
  unfold seenD
  show (st.1.set v.toNat true).getD x.toNat false = true ↔ _
  rw [getD_setB _ _ _ (by omega)]
  by_cases e : v.toNat = x.toNat
  · rw [if_pos e]
    have : x = v := by omega
    simp [this]
  · rw [if_neg e]
    have : x ≠ v := fun h => e (by rw [h])
    simp [this]
theorem fold_spec {N f B : Nat} {ps : List (Int × Int)} (hg : GOk (N : Int) ps) (v : Int)
    (hV : ∀ (w : Int) (st : List Bool × List Int), 0 ≤ w → w < N → st.1.getD w.toNat false = false → DOk N f B st → ∃ l, DR N ps st (dfsV ps f w st) (l ++ [w]) ∧ ∀ x ∈ l ++ [w], Rch ps w x) : ∀ (l : List Int) (s : List Bool × List Int), (∀ x ∈ l, (v, x) ∈ ps) → DOk N f B s →
      ∃ m, DR N ps s (foldD ps f l s) m ∧ (∀ x ∈ m, Rch ps v x) ∧ ∀ x ∈ l, seenD (foldD ps f l s) x
  | [], s, _, _ => ⟨[], DR.refl N ps s, by simp, by simp⟩
  | x :: l, s, hl, h => by
    have hx := (edge_node hg (hl x (by simp))).2
    have h2 : ∃ m, DR N ps s (stepD ps f s x) m ∧ (∀ y ∈ m, Rch ps v y) ∧ seenD (stepD ps f s x) x := by
      unfold stepD
      by_cases e : s.1.getD x.toNat false = true
      · rw [if_pos e]; exact ⟨[], DR.refl N ps s, by simp, e⟩
      · rw [if_neg e]
        obtain ⟨m, hm, hr⟩ := hV x s hx.1 hx.2 (by simpa using e) h
        exact ⟨m ++ [x], hm, fun y hy => Rch.trans (.step .refl (hl x (by simp))) (hr y hy), ((hm.mem x hx.1 hx.2).1 (by simp)).1⟩
    obtain ⟨m, hm, hr, hs⟩ := h2
    obtain ⟨m2, hm2, hr2, hs2⟩ := fold_spec hg v hV l (stepD ps f s x) (fun y hy => hl y (List.mem_cons_of_mem _ hy)) (h.step hg hx.1 hx.2)
    refine ⟨m ++ m2, hm.trans hg hm2, fun y hy => ?_, fun y hy => ?_⟩
    · rcases List.mem_append.1 hy with hy | hy
      · exact hr y hy
      · exact hr2 y hy
    · rcases List.mem_cons.1 hy with rfl | hy
      · exact hm2.mono y hx.1 hx.2 hs
      · exact hs2 y hy
theorem dfs_spec {N : Nat} {ps : List (Int × Int)} (hg : GOk (N : Int) ps) : ∀ (f B : Nat) (v : Int) (st : List Bool × List Int), 0 ≤ v → v < N → st.1.getD v.toNat false = false → DOk N f B st → ∃ l, DR N ps st (dfsV ps f v st) (l ++ [v]) ∧ ∀ x ∈ l ++ [v], Rch ps v x
  | 0, B, v, st, h0, h1, hu, h => by
    have hc := cntU_set (bs := st.1) (i := v.toNat) (by rw [h.len]; omega) hu
    have := h.cnt
    omega
  | f + 1, B, v, st, h0, h1, hu, h => by
    obtain ⟨hm, hB⟩ := h.mark h0 h1 hu
    obtain ⟨m, hD, hr, hs⟩ := fold_spec hg v (fun w st => dfs_spec hg f (B - 1) w st) (succL ps v) _ (fun x hx => mem_succL.1 hx) hm
    rw [dfsV_succ]
    have hset := fun x x0 => seen_set (st := st) (x := x) h.len h0 h1 x0
    have hv1 : seenD (st.1.set v.toNat true, st.2) v := (hset v h0).2 (.inl rfl)
    have hvm : v ∉ m := fun hx => ((hD.mem v h0 h1).1 hx).2 hv1
    refine ⟨m, ⟨by rw [hD.out, List.append_assoc], ?_, fun x hx => ?_, fun x x0 x1 => ?_, fun x x0 x1 hx => hD.mono x x0 x1 ((hset x x0).2 (.inr hx)), fun x hx y hy => ?_⟩, fun x hx => ?_⟩
    · rw [List.nodup_append]
      exact ⟨hD.nd, by simp, fun x hx y hy e => hvm (by rw [List.mem_singleton.1 hy] at e; rwa [← e])⟩
    · rcases List.mem_append.1 hx with hx | hx
      · exact hD.node x hx
      · rw [List.mem_singleton.1 hx]; exact ⟨h0, h1⟩
    · rw [List.mem_append, List.mem_singleton, hD.mem x x0 x1, hset x x0]
      show _ ↔ seenD (foldD ps f (succL ps v) _) x ∧ _
      constructor
      · rintro (⟨a1, a2⟩ | rfl)
        · exact ⟨a1, fun e => a2 (.inr e)⟩
        · exact ⟨hD.mono x h0 h1 hv1, fun e => by unfold seenD at e; rw [hu] at e; cases e⟩
      · rintro ⟨a1, a2⟩
        by_cases e : x = v
        · exact .inr e
        · exact .inl ⟨a1, fun h => h.elim e a2⟩
    · rcases List.mem_append.1 hx with hx | hx
      · exact hD.clos x hx y hy
      · rw [List.mem_singleton.1 hx] at hy
        exact hs y (mem_succL.2 hy)
    · rcases List.mem_append.1 hx with hx | hx
      · exact hr x hx
      · rw [List.mem_singleton.1 hx]; exact .refl
theorem seen_start (N : Nat) (x : Int) : ¬ seenD (List.replicate N false, []) x := by
  unfold seenD
  show ¬ (List.replicate N false).getD x.toNat false = true
  simp only [List.getD_eq_getElem?_getD, List.getElem?_replicate]
  split <;> simp
theorem post_spec {N : Nat} {ps : List (Int × Int)} (hg : GOk (N : Int) ps) {root : Int} (h0 : 0 ≤ root) (h1 : root < N) : (postL N ps root).Nodup ∧ (∃ l, postL N ps root = l ++ [root]) ∧ ∀ x, x ∈ postL N ps root ↔ Rch ps root x := by
  have hu : (List.replicate N false).getD root.toNat false = false := by
    have := seen_start N root
    unfold seenD at this
    simpa using this
  obtain ⟨l, hD, hr⟩ := dfs_spec hg N N root _ h0 h1 hu (dok_start N)
  have hp : postL N ps root = l ++ [root] := by unfold postL; rw [hD.out]; rfl
  rw [hp]
  refine ⟨hD.nd, ⟨l, rfl⟩, fun x => ⟨hr x, fun h => ?_⟩⟩
  induction h with
  | refl => simp
  | @step u y _ he ih =>
    have hn := (edge_node hg he).2
    exact (hD.mem y hn.1 hn.2).2 ⟨hD.clos u ih y he, seen_start N y⟩

/-- Each node stands behind all that its edges lead to. -/
def OrdP (ps : List (Int × Int)) (out : List Int) : Prop := ∀ p x s, out = p ++ x :: s → ∀ y, (x, y) ∈ ps → y ∈ p
theorem OrdP.snoc {ps : List (Int × Int)} {out : List Int} {v : Int} (h : OrdP ps out) (hv : ∀ y, (v, y) ∈ ps → y ∈ out) : OrdP ps (out ++ [v]) := fun p x s e y hy => by
  rcases List.eq_nil_or_concat s with rfl | ⟨s', z, rfl⟩
  · have := List.append_inj' e rfl
    obtain ⟨rfl, e2⟩ := this
    cases e2
    exact hv y hy
  · have e' : out ++ [v] = (p ++ x :: s') ++ [z] := by rw [e]; simp
    obtain ⟨rfl, _⟩ := List.append_inj' e' rfl
    exact h p x s' rfl y hy
theorem fold_ord {N f B : Nat} {ps : List (Int × Int)} (hg : GOk (N : Int) ps) (hdn : ∀ x y, (x, y) ∈ ps → y < x) (v : Int)
    (hV : ∀ (w : Int) (st : List Bool × List Int), 0 ≤ w → w < N → st.1.getD w.toNat false = false → DOk N f B st → (∀ x, 0 ≤ x → x < (N : Int) → seenD st x → x ∈ st.2 ∨ w < x) → OrdP ps st.2 → OrdP ps (dfsV ps f w st).2) : ∀ (l : List Int) (s : List Bool × List Int), (∀ x ∈ l, (v, x) ∈ ps) → DOk N f B s → (∀ x, 0 ≤ x → x < (N : Int) → seenD s x → x ∈ s.2 ∨ v ≤ x) → OrdP ps s.2 →
      (∀ x, 0 ≤ x → x < (N : Int) → seenD (foldD ps f l s) x → x ∈ (foldD ps f l s).2 ∨ v ≤ x) ∧ OrdP ps (foldD ps f l s).2
  | [], s, _, _, h1, h2 => ⟨h1, h2⟩
  | x :: l, s, hl, h, h1, h2 => by
    have hx := (edge_node hg (hl x (by simp))).2
    have hxv := hdn v x (hl x (by simp))
    refine fold_ord hg hdn v hV l (stepD ps f s x) (fun y hy => hl y (List.mem_cons_of_mem _ hy)) (h.step hg hx.1 hx.2) ?_ ?_
    · unfold stepD
      by_cases e : s.1.getD x.toNat false = true
      · rw [if_pos e]; exact h1
      · rw [if_neg e]
        obtain ⟨m, hm, _⟩ := dfs_spec hg f B x s hx.1 hx.2 (by simpa using e) h
        intro y y0 y1 hy
        by_cases hs : seenD s y
        · rcases h1 y y0 y1 hs with h3 | h3
          · left; rw [hm.out]; exact List.mem_append_left _ h3
          · exact .inr h3
        · left; rw [hm.out]; exact List.mem_append_right _ ((hm.mem y y0 y1).2 ⟨hy, hs⟩)
    · unfold stepD
      by_cases e : s.1.getD x.toNat false = true
      · rw [if_pos e]; exact h2
      · rw [if_neg e]
        exact hV x s hx.1 hx.2 (by simpa using e) h (fun y y0 y1 hy => (h1 y y0 y1 hy).imp id (fun h => by omega)) h2
theorem dfs_ord {N : Nat} {ps : List (Int × Int)} (hg : GOk (N : Int) ps) (hdn : ∀ x y, (x, y) ∈ ps → y < x) : ∀ (f B : Nat) (v : Int) (st : List Bool × List Int), 0 ≤ v → v < N → st.1.getD v.toNat false = false → DOk N f B st → (∀ x, 0 ≤ x → x < (N : Int) → seenD st x → x ∈ st.2 ∨ v < x) → OrdP ps st.2 → OrdP ps (dfsV ps f v st).2
  | 0, B, v, st, h0, h1, hu, h, _, _ => by
    have hc := cntU_set (bs := st.1) (i := v.toNat) (by rw [h.len]; omega) hu
    have := h.cnt
    omega
  | f + 1, B, v, st, h0, h1, hu, h, h2, h3 => by
    obtain ⟨hm, hB⟩ := h.mark h0 h1 hu
    have hset := fun x x0 => seen_set (st := st) (x := x) h.len h0 h1 x0
    obtain ⟨k1, k2⟩ := fold_ord hg hdn v (fun w st => dfs_ord hg hdn f (B - 1) w st) (succL ps v) (st.1.set v.toNat true, st.2) (fun x hx => mem_succL.1 hx) hm (fun x x0 x1 hx => by
      rcases (hset x x0).1 hx with rfl | hx
      · exact .inr (Int.le_refl _)
      · exact (h2 x x0 x1 hx).imp id Int.le_of_lt) h3
    obtain ⟨m, hD, _, hs⟩ := fold_spec hg v (fun w st => dfs_spec hg f (B - 1) w st) (succL ps v) _ (fun x hx => mem_succL.1 hx) hm
    rw [dfsV_succ]
    refine k2.snoc fun y hy => ?_
    have hn := (edge_node hg hy).2
    rcases k1 y hn.1 hn.2 (hs y (mem_succL.2 hy)) with h | h
    · exact h
    · have := hdn v y hy; omega
theorem post_ord {N : Nat} {ps : List (Int × Int)} (hg : GOk (N : Int) ps) (hdn : ∀ x y, (x, y) ∈ ps → y < x) {root : Int} (h0 : 0 ≤ root) (h1 : root < N) : OrdP ps (postL N ps root) := by
  have hu : (List.replicate N false).getD root.toNat false = false := by
    have := seen_start N root
    unfold seenD at this
    simpa using this
  refine dfs_ord hg hdn N N root _ h0 h1 hu (dok_start N) (fun x _ _ hx => absurd hx (seen_start N x)) fun p x s e => ?_
  have := congrArg List.length e
  simp at this

/-- Reach has each node once. -/
structure ND (st : List Bool × List Int) : Prop where
  nd : st.2.Nodup
  seen : ∀ x ∈ st.2, seenD st x
theorem ND.add {N : Nat} {st : List Bool × List Int} (h : ND st) (hI : RInv N st) {v : Int} (h0 : 0 ≤ v) (h1 : v < N) : ND (addR st v) := by
  unfold addR
  by_cases e : st.1.getD v.toNat false = true
  · rw [if_pos e]; exact h
  · rw [if_neg e]
    refine ⟨?_, fun x hx => ?_⟩
    · show (st.2 ++ [v]).Nodup
      rw [List.nodup_append]
      exact ⟨h.nd, by simp, fun x hx y hy e2 => e (by have := h.seen x hx; rw [e2, List.mem_singleton.1 hy] at this; exact this)⟩
    · rcases List.mem_append.1 hx with hx | hx
      · exact (seen_set hI.len h0 h1 (hI.node x hx).1).2 (.inr (h.seen x hx))
      · rw [List.mem_singleton.1 hx]; exact (seen_set hI.len h0 h1 h0).2 (.inl rfl)
theorem ND.fold {N : Nat} : ∀ (l : List Int) (st : List Bool × List Int), ND st → RInv N st → (∀ x ∈ l, 0 ≤ x ∧ x < (N : Int)) → ND (l.foldl addR st)
  | [], _, h, _, _ => h
  | x :: l, st, h, hI, hl => ND.fold l _ (h.add hI (hl x (by simp)).1 (hl x (by simp)).2) (hI.add (hl x (by simp)).1 (hl x (by simp)).2) fun y hy => hl y (List.mem_cons_of_mem _ hy)
theorem ND.walk {N : Nat} {ps : List (Int × Int)} (hg : GOk (N : Int) ps) : ∀ (f i : Nat) (st : List Bool × List Int), ND st → RInv N st → ND (walkR ps f i st)
  | 0, _, _, h, _ => h
  | f + 1, i, st, h, hI => by
    by_cases hlt : i < st.2.length
    · rw [walkR_go hlt]
      exact ND.walk hg f (i + 1) _ (ND.fold _ _ h hI fun x hx => succL_node hg x hx) (hI.foldl _ _ fun x hx => succL_node hg x hx)
    · rw [walkR_end hlt]; exact h
theorem ND.start {N : Nat} (zs : List Int) : ∀ k, ND (startR (N : Int) zs k)
  | 0 => ⟨by simp [startR], by simp [startR]⟩
  | k + 1 => by
    have ih := ND.start (N := N) zs k
    unfold startR
    by_cases h : isNd (N : Int) (zs.getD k 0) = true
    · rw [if_pos h]
      have := isNd_iff.1 h
      exact ih.add (RInv.start zs k) this.1 this.2
    · rw [if_neg h]; exact ih
theorem reachL_nodup {N : Nat} {ps : List (Int × Int)} (hg : GOk (N : Int) ps) (zs : List Int) : (reachL (N : Int) ps zs).Nodup := by
  unfold reachL
  rw [(List.mergeSort_perm _ _).nodup_iff]
  unfold reachR
  exact (ND.walk hg _ 0 _ (ND.start zs _) (RInv.start zs _)).nd
theorem post_reach {N : Nat} {ps : List (Int × Int)} (hg : GOk (N : Int) ps) {root : Int} (h0 : 0 ≤ root) (h1 : root < N) : (postL N ps root).Perm (reachL (N : Int) ps [root]) := by
  obtain ⟨h2, _, h3⟩ := post_spec hg h0 h1
  refine (List.perm_ext_iff_of_nodup h2 (reachL_nodup hg _)).2 fun x => ?_
  rw [h3, reach_iff hg, isNd_iff]
  exact ⟨fun h => ⟨⟨h0, h1⟩, h⟩, fun h => h.2⟩
end Go.Proofs.Ythgnbpiemkcdhaa
