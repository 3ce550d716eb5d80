/-
  The search from all nodes: the components of the whole graph.
-/
import Derived.Test.YtopbbihbpalnlaaTarN
namespace Go.Proofs.Ytopbbihbpalnlaa
set_option linter.unusedVariables false

def startS (N : Nat) : St := ⟨0, List.replicate N 0, [], []⟩
def topStep (N : Nat) (su : Nat → List Nat) (srt : List Nat → List Nat) (s : St) (v : Nat) : St := if lg s v = 0 then sccV N su srt N v s else s
def topTo (N : Nat) (su : Nat → List Nat) (srt : List Nat → List Nat) (k : Nat) : St := (List.range k).foldl (topStep N su srt) (startS N)
def compL (N : Nat) (su : Nat → List Nat) (srt : List Nat → List Nat) : List (List Nat) := (topTo N su srt N).lst
theorem topTo_succ (N : Nat) (su : Nat → List Nat) (srt : List Nat → List Nat) (k : Nat) : topTo N su srt (k + 1) = topStep N su srt (topTo N su srt k) k := by
  unfold topTo; rw [List.range_succ, List.foldl_append]; rfl
section
variable {N : Nat} {su : Nat → List Nat} {srt : List Nat → List Nat}
theorem start_lg (x : Nat) : lg (startS N) x = 0 := by
  unfold lg startS
  by_cases h : x < N
  · simp [List.getD_eq_getElem?_getD, h]
  · simp [List.getD_eq_getElem?_getD, Nat.le_of_not_lt h]
theorem wh_max (s : St) : wh N s ≤ N := by
  unfold wh
  have := List.countP_le_length (p := fun x => lg s x == 0) (l := List.range N)
  simpa using this
theorem start_inv : Inv N su (fun _ => 0) (startS N) where
  len := by simp [startS]
  opn := fun x => ⟨fun h => absurd h (by simp [startS]), fun h => absurd h.2.1 (by (rw [start_lg]); omega)⟩
  nodup := List.nodup_nil
  inc := List.Pairwise.nil
  low := fun x h => by cases h
  conn := List.Pairwise.nil
  wit := fun x h => by cases h
  closed := fun x h => by rw [start_lg] at h; omega
  cmp := {
    iff := fun x => ⟨fun h => by (rw [start_lg] at h); omega, fun ⟨c, hc, _⟩ => by cases hc⟩
    scc := fun c hc => by cases hc
    ne := fun c hc => by cases hc
    top := fun l1 c l2 h => by
      have : ([] : List (List Nat)) = l1 ++ c :: l2 := h
      simp at this
    dis := List.Pairwise.nil }
  room := by have := wh_max (N := N) (startS N); simpa [startS] using this
structure Top (N : Nat) (su : Nat → List Nat) (k : Nat) (s : St) : Prop where
  inv : ∃ num, Inv N su num s
  opn : s.opn = []
  seen : ∀ x, x < k → lg s x ≠ 0
theorem start_top : Top N su 0 (startS N) := ⟨⟨_, start_inv⟩, rfl, fun x hx => absurd hx (Nat.not_lt_zero _)⟩
/-- Behind a visit from above, no node is left open. -/
theorem Post.none {num num' : Nat → Nat} {s s' : St} {v : Nat} {ext : List Nat} (h : Post N su num s v s' num' ext) (h0 : s.opn = []) : s'.opn = [] := by
  have ho := h.opn
  rw [h0, List.nil_append] at ho
  match ext, ho, h.fin with
  | [], ho, _ => exact ho
  | y :: r, ho, hf =>
    exfalso
    obtain ⟨_, h2, _⟩ := hf y (by simp)
    obtain ⟨z, hz, hzn, _⟩ := h.inv.wit y (by rw [ho]; simp)
    have hi := h.inv.inc
    rw [ho] at hz hi
    rw [← hzn] at h2
    rcases List.mem_cons.mp hz with e | e
    · rw [e] at h2; omega
    · have := (List.pairwise_cons.mp hi).1 z e; omega
theorem Top.step (hsrt : ∀ l, (srt l).Perm l) (hsu : ∀ x, ∀ y ∈ su x, y < N) {k : Nat} {s : St} (h : Top N su k s) (hk : k < N) : Top N su (k + 1) (topStep N su srt s k) := by
  obtain ⟨⟨num, hi⟩, ho, hs⟩ := h
  unfold topStep
  by_cases h0 : lg s k = 0
  · rw [if_pos h0]
    obtain ⟨num', ext, hp⟩ := sccV_post hsrt hsu N num s k hi hk h0 (fun x hx => by rw [ho] at hx; cases hx) (wh_max s)
    refine ⟨⟨num', hp.inv⟩, hp.none ho, fun x hx => ?_⟩
    by_cases e : x = k
    · rw [e]; exact hp.vseen
    · exact hp.seen x (hs x (by omega))
  · rw [if_neg h0]
    refine ⟨⟨num, hi⟩, ho, fun x hx => ?_⟩
    by_cases e : x = k
    · rw [e]; exact h0
    · exact hs x (by omega)
theorem topTo_top (hsrt : ∀ l, (srt l).Perm l) (hsu : ∀ x, ∀ y ∈ su x, y < N) : ∀ k, k ≤ N → Top N su k (topTo N su srt k)
  | 0, _ => start_top
  | k + 1, hk => by rw [topTo_succ]; exact (topTo_top hsrt hsu k (by omega)).step hsrt hsu hk

/-- The lists are sorted ones. -/
def Srt (srt : List Nat → List Nat) (l : List (List Nat)) : Prop := ∀ c ∈ l, ∃ x, c = srt x
theorem sccV_srt : ∀ (b v : Nat) (s : St), Srt srt s.lst → Srt srt (sccV N su srt b v s).lst
  | 0, v, s, h => h
  | b + 1, v, s, h => by
    have loop : ∀ (l : List Nat) (t : St), Srt srt t.lst → Srt srt (l.foldl (childStep (sccV N su srt b) v) t).lst := by
      intro l
      induction l with
      | nil => intro t ht; exact ht
      | cons w r ih =>
        intro t ht
        rw [List.foldl_cons]
        refine ih _ ?_
        unfold childStep
        by_cases e : lg t w = 0
        · rw [if_pos e]; exact sccV_srt b w t ht
        · rw [if_neg e]; exact ht
    have hl := loop (su v) (opened s v) h
    rw [sccV]
    split
    · exact hl
    · intro c hc
      rcases List.mem_append.mp hc with e | e
      · exact hl c e
      · exact ⟨_, by simpa using e⟩
theorem topTo_srt : ∀ k, Srt srt (topTo N su srt k).lst
  | 0 => fun c hc => by cases hc
  | k + 1 => by
    rw [topTo_succ]
    unfold topStep
    split
    · exact sccV_srt _ _ _ (topTo_srt k)
    · exact topTo_srt k
/-- What the list of the components is. -/
structure Comps (N : Nat) (su : Nat → List Nat) (L : List (List Nat)) : Prop where
  all : ∀ x, x < N → ∃ c ∈ L, x ∈ c
  lt : ∀ c ∈ L, ∀ x ∈ c, x < N
  scc : ∀ c ∈ L, ∀ x ∈ c, ∀ y, y ∈ c ↔ Rc su x y ∧ Rc su y x
  ne : ∀ c ∈ L, c ≠ []
  nodup : ∀ c ∈ L, c.Nodup
  top : ∀ l1 c l2, L = l1 ++ c :: l2 → ∀ x ∈ c, ∀ y ∈ su x, y ∈ c ∨ ∃ d ∈ l1, y ∈ d
  dis : L.Pairwise fun c d => ∀ x ∈ c, x ∉ d
theorem compL_comps (hsrt : ∀ l, (srt l).Perm l) (hsu : ∀ x, ∀ y ∈ su x, y < N) : Comps N su (compL N su srt) := by
  obtain ⟨⟨num, hi⟩, ho, hs⟩ := topTo_top (srt := srt) hsrt hsu N (Nat.le_refl _)
  have hx : ∀ x, x < N → lg (topTo N su srt N) x = N + 1 := fun x hx => by
    have h1 := hs x hx
    have h2 : ¬ (x < N ∧ 0 < lg (topTo N su srt N) x ∧ lg (topTo N su srt N) x ≠ N + 1) := fun e => by
      have := (hi.opn x).mpr e
      rw [ho] at this
      cases this
    have : ¬ lg (topTo N su srt N) x ≠ N + 1 := fun e => h2 ⟨hx, by omega, e⟩
    omega
  exact ⟨fun x h => (hi.cmp.iff x).mp (hx x h), fun c hc x hxc => hi.out (by rw [(hi.cmp.iff x).mpr ⟨c, hc, hxc⟩]; omega), hi.cmp.scc, fun c hc => (hi.cmp.ne c hc).1, fun c hc => (hi.cmp.ne c hc).2, hi.cmp.top, hi.cmp.dis⟩
theorem compL_srt : Srt srt (compL N su srt) := topTo_srt N
end
end Go.Proofs.Ytopbbihbpalnlaa
