/-
  The depth-first search in plain lists: which nodes are seen, and the list in postorder.
-/
import Derived.Test.YthgnbpiemkcdhaaGRchM
namespace Go.Proofs.Ythgnbpiemkcdhaa
open Go.RowKit Go.Shelf
set_option linter.unusedVariables false

def cntU (bs : List Bool) : Nat := bs.countP (fun b => !b)
/-- The search from a node that is not seen yet, f calls deep at the most. -/
def dfsV (ps : List (Int × Int)) : Nat → Int → List Bool × List Int → List Bool × List Int
  | 0, _, st => st
  | f + 1, v, st =>
    let s := (succL ps v).foldl (fun s w => if s.1.getD w.toNat false = true then s else dfsV ps f w s) (st.1.set v.toNat true, st.2)
    (s.1, s.2 ++ [v])
def stepD (ps : List (Int × Int)) (f : Nat) (s : List Bool × List Int) (w : Int) : List Bool × List Int := if s.1.getD w.toNat false = true then s else dfsV ps f w s
def foldD (ps : List (Int × Int)) (f : Nat) (l : List Int) (s : List Bool × List Int) : List Bool × List Int := l.foldl (stepD ps f) s
theorem dfsV_succ (ps : List (Int × Int)) (f : Nat) (v : Int) (st : List Bool × List Int) : dfsV ps (f + 1) v st = ((foldD ps f (succL ps v) (st.1.set v.toNat true, st.2)).1, (foldD ps f (succL ps v) (st.1.set v.toNat true, st.2)).2 ++ [v]) := rfl
theorem foldD_snoc (ps : List (Int × Int)) (f : Nat) (l : List Int) (x : Int) (s : List Bool × List Int) : foldD ps f (l ++ [x]) s = stepD ps f (foldD ps f l s) x := by unfold foldD; rw [List.foldl_append]; rfl
structure DOk (N f B : Nat) (st : List Bool × List Int) : Prop where
  len : st.1.length = N
  cnt : cntU st.1 ≤ f
  sum : st.2.length + cntU st.1 = B
theorem cntU_set {bs : List Bool} {i : Nat} (hi : i < bs.length) (h : bs.getD i false = false) : cntU (bs.set i true) + 1 = cntU bs := countP_set bs i hi h
theorem DOk.mark {N f B : Nat} {st : List Bool × List Int} {v : Int} (h : DOk N (f + 1) B st) (h0 : 0 ≤ v) (h1 : v < N) (hu : st.1.getD v.toNat false = false) : DOk N f (B - 1) (st.1.set v.toNat true, st.2) ∧ 1 ≤ B := by
  have hc := cntU_set (bs := st.1) (i := v.toNat) (by rw [h.len]; omega) hu
  have := h.cnt
  have := h.sum
  exact ⟨⟨by simpa using h.len, by show cntU (st.1.set _ _) ≤ f; omega, by show st.2.length + cntU (st.1.set _ _) = _; omega⟩, by omega⟩
theorem fold_ok {N f B : Nat} {ps : List (Int × Int)} (hV : ∀ (v : Int) (st : List Bool × List Int), 0 ≤ v → v < N → st.1.getD v.toNat false = false → DOk N f B st → DOk N f B (dfsV ps f v st)) : ∀ (l : List Int) (s : List Bool × List Int), (∀ x ∈ l, 0 ≤ x ∧ x < (N : Int)) → DOk N f B s → DOk N f B (foldD ps f l s)
  | [], s, _, h => h
  | x :: l, s, hl, h => by
    show DOk N f B (foldD ps f l (stepD ps f s x))
    refine fold_ok hV l _ (fun y hy => hl y (List.mem_cons_of_mem _ hy)) ?_
    unfold stepD
    by_cases e : s.1.getD x.toNat false = true
    · rw [if_pos e]; exact h
    · rw [if_neg e]; exact hV x s (hl x (by simp)).1 (hl x (by simp)).2 (by simpa using e) h
theorem dfsV_ok {N : Nat} {ps : List (Int × Int)} (hg : GOk (N : Int) ps) : ∀ (f B : Nat) (v : Int) (st : List Bool × List Int), 0 ≤ v → v < N → st.1.getD v.toNat false = false → DOk N f B st → DOk N f B (dfsV ps f v st)
  | 0, B, v, st, h0, h1, hu, h => by
    have hc := cntU_set (bs := st.1) (i := v.toNat) (by rw [h.len]; omega) hu
    have := h.cnt
    omega
  | f + 1, B, v, st, h0, h1, hu, h => by
    obtain ⟨hm, hB⟩ := h.mark h0 h1 hu
    have := fold_ok (fun v st => dfsV_ok hg f (B - 1) v st) (succL ps v) _ (fun x hx => succL_node hg x hx) hm
    rw [dfsV_succ]
    have h2 := this.cnt
    have h3 := this.sum
    exact ⟨this.len, by show cntU (foldD ps f (succL ps v) _).1 ≤ f + 1; omega, by rw [List.length_append, List.length_singleton]; show _ + cntU (foldD ps f (succL ps v) _).1 = B; omega⟩
theorem DOk.step {N f B : Nat} {ps : List (Int × Int)} (hg : GOk (N : Int) ps) {s : List Bool × List Int} (h : DOk N f B s) {x : Int} (h0 : 0 ≤ x) (h1 : x < N) : DOk N f B (stepD ps f s x) := by
  unfold stepD
  by_cases e : s.1.getD x.toNat false = true
  · rw [if_pos e]; exact h
  · rw [if_neg e]; exact dfsV_ok hg f B x s h0 h1 (by simpa using e) h
/-- The postorder of the search from a node. -/
def postL (N : Nat) (ps : List (Int × Int)) (root : Int) : List Int := (dfsV ps N root (List.replicate N false, [])).2
theorem dok_start (N : Nat) : DOk N N N (List.replicate N false, []) := ⟨by simp, by simp [cntU, List.countP_replicate], by simp [cntU, List.countP_replicate]⟩
end Go.Proofs.Ythgnbpiemkcdhaa
