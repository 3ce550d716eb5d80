/-
  Dominators by semidominators, in plain words: that the numbers of a depth-first search give them.
-/
import Derived.Lib.Hide
namespace Go.Proofs.Ytcmliokkamgcdaa
set_option linter.unusedVariables false

/-- y is reached from x by steps of F; every node after x has Q. -/
inductive Rg (F : Nat → Nat → Prop) (Q : Nat → Prop) (x : Nat) : Nat → Prop
  | refl : Rg F Q x x
  | tail {y z : Nat} (h : Rg F Q x y) (e : F y z) (q : Q z) : Rg F Q x z
theorem Rg.mono {F : Nat → Nat → Prop} {Q R : Nat → Prop} {x y : Nat} (h : Rg F Q x y) (m : ∀ z, Q z → R z) : Rg F R x y := by
  induction h with
  | refl => exact .refl
  | tail _ e q ih => exact ih.tail e (m _ q)
theorem Rg.trans {F : Nat → Nat → Prop} {Q : Nat → Prop} {x y z : Nat} (h : Rg F Q x y) (k : Rg F Q y z) : Rg F Q x z := by
  induction k with
  | refl => exact h
  | tail _ e q ih => exact ih.tail e q
/-- A path from x to z; what lies between is greater than z. -/
def SPath (F : Nat → Nat → Prop) (x z : Nat) : Prop := ∃ y, Rg F (z < ·) x y ∧ F y z
inductive Anc (p : Nat → Nat) (u : Nat) : Nat → Prop
  | refl : Anc p u u
  | step {j : Nat} (n : 0 < j) (h : Anc p u (p j)) : Anc p u j
structure Tr (k : Nat) (F : Nat → Nat → Prop) (p : Nat → Nat) : Prop where
  lt : ∀ i, 0 < i → i < k → p i < i
  edge : ∀ i, 0 < i → i < k → F (p i) i
  bnd : ∀ i j, F i j → i < k ∧ j < k
  fwd : ∀ i j, F i j → i < j → Anc p i j
  next : ∀ i, i + 1 < k → Anc p (p (i + 1)) i
section
variable {k : Nat} {F : Nat → Nat → Prop} {p : Nat → Nat}
theorem Anc.trans {u v w : Nat} (h : Anc p u v) (g : Anc p v w) : Anc p u w := by
  induction g with
  | refl => exact h
  | step n _ ih => exact .step n ih
theorem Tr.anc_le (t : Tr k F p) {u j : Nat} (h : Anc p u j) (hj : j < k) : u ≤ j := by
  induction h with
  | refl => exact Nat.le_refl _
  | @step j n h ih => have := t.lt j n hj; have := ih (by omega); omega
theorem Tr.anc_up (t : Tr k F p) {u j : Nat} (h : Anc p u j) (hj : j < k) (ne : u ≠ j) : 0 < j ∧ Anc p u (p j) := by
  cases h with
  | refl => exact absurd rfl ne
  | step n h => exact ⟨n, h⟩
/-- The nodes below z are an interval that begins with z. -/
theorem Tr.between (t : Tr k F p) {z u u' : Nat} (h : Anc p z u) (hu : u < k) (a : z ≤ u') (b : u' ≤ u) : Anc p z u' := by
  induction u with
  | zero => have : u' = 0 := by omega
            subst this; exact h
  | succ u ih =>
    by_cases e : u' = u + 1
    · subst e; exact h
    · have hz : z ≠ u + 1 := by omega
      obtain ⟨_, h'⟩ := t.anc_up h hu hz
      exact ih (h'.trans (t.next u hu)) (by omega) (by omega)
/-- Below z one stays while the numbers are not less than it. -/
theorem Tr.stays (t : Tr k F p) {z u u' : Nat} (h : Anc p z u) (e : F u u') (a : z ≤ u') : Anc p z u' := by
  obtain ⟨hu, hu'⟩ := t.bnd _ _ e
  by_cases l : u < u'
  · exact h.trans (t.fwd _ _ e l)
  · exact t.between h hu a (by omega)
theorem Tr.below (t : Tr k F p) {z y : Nat} (h : Rg F (z ≤ ·) z y) : Anc p z y := by
  induction h with
  | refl => exact .refl
  | tail _ e q ih => exact t.stays ih e q
/-- The way down the tree. -/
theorem Tr.down (t : Tr k F p) {Q : Nat → Prop} {u j : Nat} (h : Anc p u j) (hj : j < k) (q : ∀ v, Anc p v j → u < v → Q v) : Rg F Q u j := by
  induction h with
  | refl => exact .refl
  | @step j n h ih =>
    have l := t.lt j n hj
    have := t.anc_le h (by omega)
    exact (ih (by omega) (fun v hv lv => q v (.step n hv) lv)).tail (t.edge j n hj) (q j .refl (by omega))
theorem Tr.root (t : Tr k F p) {j : Nat} (hj : j < k) : Anc p 0 j := by
  induction j using Nat.strongRecOn with
  | _ j ih =>
    by_cases e : j = 0
    · subst e; exact .refl
    · have := t.lt j (by omega) hj
      exact .step (by omega) (ih (p j) (by omega) (by omega))
/-- The least node after x on a path. -/
theorem low_point {i x y : Nat} (h : Rg F (i < ·) x y) : y = x ∨ ∃ z, i < z ∧ SPath F x z ∧ Rg F (z ≤ ·) z y := by
  induction h with
  | refl => exact .inl rfl
  | @tail y w h e q ih =>
    right
    rcases ih with rfl | ⟨z, lz, sp, r⟩
    · exact ⟨w, q, ⟨y, .refl, e⟩, .refl⟩
    · by_cases l : z ≤ w
      · exact ⟨z, lz, sp, r.tail e l⟩
      · obtain ⟨v, rv, ev⟩ := sp
        refine ⟨w, q, ⟨y, ?_, e⟩, .refl⟩
        exact ((rv.mono (fun a b => by omega)).tail ev (by omega)).trans (r.mono (fun a b => by omega))
/-- What the numbers s of the semidominators satisfy. -/
structure Semi (k : Nat) (F : Nat → Nat → Prop) (p s : Nat → Nat) : Prop where
  near : ∀ i j, 0 < i → F j i → j < i → s i ≤ j
  far : ∀ i j u, 0 < i → F j i → Anc p u j → i < u → s i ≤ s u
  is : ∀ i, 0 < i → i < k → (∃ j, F j i ∧ j < i ∧ s i = j) ∨ ∃ j u, F j i ∧ Anc p u j ∧ i < u ∧ s i = s u
theorem Semi.lt (t : Tr k F p) {s : Nat → Nat} (c : Semi k F p s) {i : Nat} (h0 : 0 < i) (hi : i < k) : s i ≤ p i :=
  c.near i (p i) h0 (t.edge i h0 hi) (t.lt i h0 hi)
theorem Semi.path (t : Tr k F p) {s : Nat → Nat} (c : Semi k F p s) : ∀ n i, k ≤ i + n → 0 < i → i < k → SPath F (s i) i := by
  intro n
  induction n with
  | zero => intro i h _ hi; omega
  | succ n ih =>
    intro i h h0 hi
    rcases c.is i h0 hi with ⟨j, e, l, hs⟩ | ⟨j, u, e, a, l, hs⟩
    · rw [hs]; exact ⟨j, .refl, e⟩
    · have hj := (t.bnd _ _ e).1
      have hu := t.anc_le a hj
      obtain ⟨y, r, ey⟩ := ih u (by omega) (by omega) (by omega)
      rw [hs]
      refine ⟨j, ((r.mono (fun a b => by omega)).tail ey l).trans ?_, e⟩
      exact t.down a hj (fun v hv lv => by omega)
theorem Semi.least (t : Tr k F p) {s : Nat → Nat} (c : Semi k F p s) : ∀ n i, k ≤ i + n → 0 < i → ∀ x, x < i → SPath F x i → s i ≤ x := by
  intro n
  induction n with
  | zero => intro i h h0 x _ ⟨y, _, e⟩; have := (t.bnd _ _ e).2; omega
  | succ n ih =>
    intro i h h0 x lx ⟨y, r, e⟩
    rcases low_point r with rfl | ⟨z, lz, sp, rz⟩
    · exact c.near i _ h0 e lx
    · have az := t.below rz
      have := ih z (by omega) (by omega) x (by omega) sp
      exact Nat.le_trans (c.far i y z h0 e az lz) this
/-- a is on every path from 0 to b. -/
def Dom (F : Nat → Nat → Prop) (a b : Nat) : Prop := Rg F (· ≠ a) 0 b → a = 0
theorem Dom.refl (b : Nat) : Dom F b b := by
  intro h
  cases h with
  | refl => rfl
  | tail _ _ q => exact absurd rfl q
theorem Dom.zero (b : Nat) : Dom F 0 b := fun _ => rfl
theorem Rg.cut {Q : Nat → Prop} {x c : Nat} (b : Nat) (h : Rg F Q x c) : Rg F (· ≠ b) x c ∨ Rg F Q x b := by
  induction h with
  | refl => exact .inl .refl
  | @tail y z h e q ih =>
    rcases ih with i | i
    · by_cases hz : z = b
      · subst hz; exact .inr (h.tail e q)
      · exact .inl (i.tail e hz)
    · exact .inr i
theorem Dom.trans {a b c : Nat} (h : Dom F a b) (g : Dom F b c) : Dom F a c := by
  intro r
  rcases r.cut b with r1 | r1
  · have := g r1; subst this
    exact h .refl
  · exact h r1
theorem Tr.dom_anc (t : Tr k F p) {a b : Nat} (hb : b < k) (h : Dom F a b) : Anc p a b := by
  by_cases ha : Anc p a b
  · exact ha
  · have : a = 0 := h (t.down (t.root hb) hb (fun v hv _ e => ha (e ▸ hv)))
    subst this; exact t.root hb
theorem Tr.dom_le (t : Tr k F p) {a b : Nat} (hb : b < k) (h : Dom F a b) : a ≤ b := t.anc_le (t.dom_anc hb h) hb
theorem Dom.pred {a b c : Nat} (h : Dom F a c) (e : F b c) (n : a ≠ c) : Dom F a b := by
  intro r
  exact h (r.tail e (fun x => n x.symm))
/-- On a path that avoids d from below d to above: where it last goes over, and the least node after that. -/
theorem goes_over {d x i : Nat} (h : Rg F (· ≠ d) x i) (l : x < d) :
    i < d ∨ (d < i ∧ ∃ z y, z < d ∧ d < y ∧ SPath F z y ∧ Rg F (y ≤ ·) y i) := by
  induction h with
  | refl => exact .inl l
  | @tail v w h e q ih =>
    have q' : w ≠ d := q
    by_cases lw : w < d
    · exact .inl lw
    · right
      refine ⟨by omega, ?_⟩
      rcases ih with a | ⟨_, z, y, lz, ly, sp, r⟩
      · exact ⟨v, w, a, by omega, ⟨v, .refl, e⟩, .refl⟩
      · by_cases lyw : y ≤ w
        · exact ⟨z, y, lz, ly, sp, r.tail e lyw⟩
        · obtain ⟨a, ra, ea⟩ := sp
          refine ⟨z, w, lz, by omega, ⟨v, ?_, e⟩, .refl⟩
          exact ((ra.mono (fun a b => by omega)).tail ea (by omega)).trans (r.mono (fun a b => by omega))
/-- A strict dominator dominates the parent and is not greater than the semidominator. -/
theorem Tr.strict (t : Tr k F p) {s : Nat → Nat} (c : Semi k F p s) {i d : Nat} (h0 : 0 < i) (hi : i < k) (h : Dom F d i) (n : d ≠ i) :
    Dom F d (p i) ∧ d ≤ s i := by
  refine ⟨h.pred (t.edge i h0 hi) n, ?_⟩
  have ld := t.dom_le hi h
  have ls := c.lt t h0 hi
  have lp := t.lt i h0 hi
  apply Classical.byContradiction
  intro hn
  have : d = 0 := by
    apply h
    obtain ⟨y, r, e⟩ := c.path t k i (by omega) h0 hi
    refine Rg.tail (Rg.trans (t.down (t.root (by omega)) (by omega) ?_) (r.mono ?_)) e (fun x => n x.symm)
    · intro v hv _ e; have := t.anc_le hv (by omega); omega
    · intro v (l : i < v) e; omega
  omega
/-- The greatest of the dominators of the parent that are not greater than the semidominator dominates the node. -/
theorem Tr.nearest (t : Tr k F p) {s : Nat → Nat} (c : Semi k F p s) {i d : Nat} (h0 : 0 < i) (hi : i < k) (h : Dom F d (p i)) (l : d ≤ s i) :
    Dom F d i := by
  intro r
  apply Classical.byContradiction
  intro hd
  have lp := t.lt i h0 hi
  have ls := c.lt t h0 hi
  rcases goes_over r (by omega) with a | ⟨_, x, y, lx, ly, sp, ry⟩
  · omega
  · have ay := t.below ry
    have hy := t.anc_le ay hi
    by_cases e : y = i
    · subst e
      have := c.least t k y (by omega) h0 x (by omega) sp
      omega
    · obtain ⟨_, ap⟩ := t.anc_up ay hi e
      obtain ⟨v, rv, ev⟩ := sp
      refine hd (h ?_)
      refine Rg.trans (Rg.tail (Rg.trans (t.down (t.root (by omega)) (by omega) ?_) (rv.mono ?_)) ev (by omega)) (t.down ap (by omega) ?_)
      · intro w hw _ e; have := t.anc_le hw (by omega); omega
      · intro w (q : y < w) e; omega
      · intro w hw q e; omega
/-- D gives the immediate dominators of the numbers below m. -/
def IsD (F : Nat → Nat → Prop) (D : Nat → Nat) (m : Nat) : Prop :=
  ∀ i, 0 < i → i < m → D i < i ∧ Dom F (D i) i ∧ ∀ a, Dom F a i → a ≠ i → Dom F a (D i)
/-- Where the walk stands that looks for the immediate dominator of i. -/
structure Wlk (F : Nat → Nat → Prop) (p s : Nat → Nat) (i e : Nat) : Prop where
  le : e ≤ p i
  dom : Dom F e (p i)
  all : ∀ a, Dom F a (p i) → a ≤ s i → Dom F a e
theorem Wlk.start (i : Nat) {s : Nat → Nat} : Wlk F p s i (p i) := ⟨Nat.le_refl _, .refl _, fun _ h _ => h⟩
theorem Wlk.step (t : Tr k F p) {s D : Nat → Nat} {i e : Nat} (h0 : 0 < i) (hi : i < k) (w : Wlk F p s i e) (d : IsD F D i) (l : s i < e) : Wlk F p s i (D e) := by
  have lp := t.lt i h0 hi
  have le := w.le
  obtain ⟨a, b, c⟩ := d e (by omega) (by omega)
  exact ⟨by omega, b.trans w.dom, fun x hx lx => c x (w.all x hx lx) (by omega)⟩
theorem Wlk.fin (t : Tr k F p) {s D : Nat → Nat} (c : Semi k F p s) {i e : Nat} (h0 : 0 < i) (hi : i < k) (w : Wlk F p s i e) (l : e ≤ s i) :
    e < i ∧ Dom F e i ∧ ∀ a, Dom F a i → a ≠ i → Dom F a e := by
  have lp := t.lt i h0 hi
  have le := w.le
  refine ⟨by omega, t.nearest c h0 hi w.dom l, fun a ha na => ?_⟩
  obtain ⟨u, v⟩ := t.strict c h0 hi ha na
  exact w.all a u v
end
end Go.Proofs.Ytcmliokkamgcdaa
