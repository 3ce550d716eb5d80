/-
  The depth-first search that numbers the nodes: what holds between its steps.
-/
import Derived.Test.YtcmliokkamgcdaaDomM
namespace Go.Proofs.Ytcmliokkamgcdaa
set_option linter.unusedVariables false

/-- The parent of a number. -/
def pf (par : List Nat) (i : Nat) : Nat := par.getD i 0
theorem Anc.congr {p q : Nat → Nat} {k : Nat} (hp : ∀ i, 0 < i → i < k → p i < i) (e : ∀ i, 0 < i → i < k → q i = p i) {u j : Nat} (h : Anc p u j) (hj : j < k) : Anc q u j := by
  induction h with
  | refl => exact .refl
  | @step j n h ih =>
    have := hp j n hj
    exact .step n (by rw [e j n hj]; exact ih (by omega))
theorem pf_snoc {par : List Nat} {x i : Nat} (h : i < par.length) : pf (par ++ [x]) i = pf par i := by
  simp [pf, List.getD_eq_getElem?_getD, List.getElem?_append_left h]
theorem pf_last (par : List Nat) (x : Nat) : pf (par ++ [x]) par.length = x := by
  simp [pf, List.getD_eq_getElem?_getD]
theorem getD_snoc {l : List Nat} {x i d : Nat} (h : i < l.length) : (l ++ [x]).getD i d = l.getD i d := by
  simp [List.getD_eq_getElem?_getD, List.getElem?_append_left h]
theorem getD_snoc_last (l : List Nat) (x d : Nat) : (l ++ [x]).getD l.length d = x := by
  simp [List.getD_eq_getElem?_getD]
/-- The search between two steps: nd are the nodes in the order of their numbers, par the numbers of their parents, pth the numbers on the path, rest the successors not yet turned to. -/
structure Ex (N root : Nat) (su : Nat → List Nat) (nd par pth : List Nat) (rest : List (List Nat)) : Prop where
  lp : par.length = nd.length
  lr : rest.length = N
  nodup : nd.Nodup
  node : ∀ v ∈ nd, v < N
  ne : 0 < nd.length
  first : nd.getD 0 0 = root
  lt : ∀ i, 0 < i → i < nd.length → pf par i < i
  edge : ∀ i, 0 < i → i < nd.length → nd.getD i 0 ∈ su (nd.getD (pf par i) 0)
  next : ∀ i, i + 1 < nd.length → Anc (pf par) (pf par (i + 1)) i
  on : ∀ x ∈ pth, x < nd.length ∧ Anc (pf par) x (nd.length - 1)
  pair : pth.Pairwise (fun a b => Anc (pf par) a b)
  done : ∀ i, i < nd.length → ∃ d, su (nd.getD i 0) = d ++ rest.getD (nd.getD i 0) [] ∧ ∀ w ∈ d, w ∈ nd ∧ ∀ j, j < nd.length → nd.getD j 0 = w → i < j → Anc (pf par) i j
  fresh : ∀ v, v < N → v ∉ nd → rest.getD v [] = su v
  over : ∀ i, i < nd.length → i ∉ pth → rest.getD (nd.getD i 0) [] = []
section
variable {N root : Nat} {su : Nat → List Nat} {nd par pth : List Nat} {rest : List (List Nat)}
theorem Ex.start (hr : root < N) (hl : rest.length = N) (h : ∀ v, v < N → rest.getD v [] = su v) (x : Nat) : Ex N root su [root] [x] [0] rest := by
  refine ⟨rfl, hl, by simp, by simpa using hr, by simp, rfl, fun i a b => ?_, fun i a b => ?_, fun i b => ?_, ?_, by simp, fun i b => ?_, fun v hv _ => h v hv, fun i b n => ?_⟩
  · simp at b; omega
  · simp at b; omega
  · simp at b
  · intro y hy
    have : y = 0 := by simpa using hy
    subst this; exact ⟨by simp, .refl⟩
  · have : i = 0 := by simpa using b
    subst this
    exact ⟨[], by show su root = [] ++ rest.getD root []; rw [h root hr]; rfl, fun w hw => by cases hw⟩
  · have : i = 0 := by simpa using b
    subst this; simp at n
theorem nd_inj {nd : List Nat} (h : nd.Nodup) {i j : Nat} (hi : i < nd.length) (hj : j < nd.length) (e : nd.getD i 0 = nd.getD j 0) : i = j := by
  have a : nd[i] = nd[j] := by simpa [List.getD_eq_getElem?_getD, hi, hj] using e
  exact (List.getElem_inj h).1 a
theorem mem_at {nd : List Nat} {v : Nat} (h : v ∈ nd) : ∃ i, i < nd.length ∧ nd.getD i 0 = v := by
  obtain ⟨i, hi, e⟩ := List.getElem_of_mem h
  exact ⟨i, hi, by simp [List.getD_eq_getElem?_getD, hi, e]⟩
theorem at_mem {nd : List Nat} {i : Nat} (h : i < nd.length) : nd.getD i 0 ∈ nd := by
  rw [List.getD_eq_getElem?_getD, List.getElem?_eq_getElem h]; exact List.getElem_mem h
/-- The tree below any number is an interval. -/
theorem Ex.tr (h : Ex N root su nd par pth rest) {z u u' : Nat} (a : Anc (pf par) z u) (hu : u < nd.length) (b : z ≤ u') (c : u' ≤ u) : Anc (pf par) z u' := by
  have t : Tr nd.length (fun i j => i < j ∧ j < nd.length ∧ i = pf par j) (pf par) := ⟨h.lt, fun i a b => ⟨h.lt i a b, b, rfl⟩, fun i j e => ⟨by omega, e.2.1⟩, fun i j e _ => .step (by omega) (by rw [← e.2.2]; exact .refl), h.next⟩
  exact t.between a hu b c
theorem Ex.pop {pth : List Nat} {t : Nat} (h : Ex N root su nd par (pth ++ [t]) rest) (e : rest.getD (nd.getD t 0) [] = []) : Ex N root su nd par pth rest :=
  { h with
    on := fun x hx => h.on x (by simp [hx])
    pair := (List.pairwise_append.1 h.pair).1
    over := fun i hi n => by
      by_cases c : i = t
      · subst c; exact e
      · exact h.over i hi (by simp [n, c]) }
theorem Ex.skip {pth : List Nat} {t w : Nat} {r : List Nat} (h : Ex N root su nd par (pth ++ [t]) rest) (e : rest.getD (nd.getD t 0) [] = w :: r) (hw : w ∈ nd) :
    Ex N root su nd par (pth ++ [t]) (rest.set (nd.getD t 0) r) := by
  obtain ⟨ht, hat⟩ := h.on t (by simp)
  have hn := h.node _ (at_mem ht)
  have hne := h.ne
  have self : (rest.set (nd.getD t 0) r).getD (nd.getD t 0) [] = r := by
    rw [List.getD_eq_getElem?_getD, List.getElem?_set_self (by rw [h.lr]; exact hn)]; rfl
  have other : ∀ v, v ≠ nd.getD t 0 → (rest.set (nd.getD t 0) r).getD v [] = rest.getD v [] := fun v hv => by
    rw [List.getD_eq_getElem?_getD, List.getElem?_set_ne (Ne.symm hv), ← List.getD_eq_getElem?_getD]
  refine { h with lr := by rw [List.length_set]; exact h.lr, done := fun i hi => ?_, fresh := fun v hv n => ?_, over := fun i hi n => ?_ }
  · obtain ⟨d, hd, hall⟩ := h.done i hi
    by_cases c : i = t
    · subst c
      refine ⟨d ++ [w], by rw [self, hd, e]; simp, fun x hx => ?_⟩
      rcases List.mem_append.1 hx with q | q
      · exact hall x q
      · have : x = w := by simpa using q
        subst this
        exact ⟨hw, fun j hj _ lj => h.tr hat (by omega) (by omega) (by omega)⟩
    · exact ⟨d, by rw [other _ (fun q => c (nd_inj h.nodup hi ht q))]; exact hd, hall⟩
  · rw [other v (fun q => n (q ▸ at_mem ht))]; exact h.fresh v hv n
  · rw [other _ (fun q => n (by rw [nd_inj h.nodup hi ht q]; simp))]; exact h.over i hi n
theorem Ex.push {pth : List Nat} {t w : Nat} {r : List Nat} (h : Ex N root su nd par (pth ++ [t]) rest) (e : rest.getD (nd.getD t 0) [] = w :: r) (hw : w ∉ nd) (hwN : w < N) :
    Ex N root su (nd ++ [w]) (par ++ [t]) ((pth ++ [t]) ++ [nd.length]) (rest.set (nd.getD t 0) r) := by
  obtain ⟨ht, hat⟩ := h.on t (by simp)
  have hn := h.node _ (at_mem ht)
  have hne := h.ne
  have hlp := h.lp
  have self : (rest.set (nd.getD t 0) r).getD (nd.getD t 0) [] = r := by
    rw [List.getD_eq_getElem?_getD, List.getElem?_set_self (by rw [h.lr]; exact hn)]; rfl
  have other : ∀ v, v ≠ nd.getD t 0 → (rest.set (nd.getD t 0) r).getD v [] = rest.getD v [] := fun v hv => by
    rw [List.getD_eq_getElem?_getD, List.getElem?_set_ne (Ne.symm hv), ← List.getD_eq_getElem?_getD]
  have lk : (nd ++ [w]).length = nd.length + 1 := by simp
  have pk : pf (par ++ [t]) nd.length = t := by rw [← hlp]; exact pf_last par t
  have po : ∀ i, i < nd.length → pf (par ++ [t]) i = pf par i := fun i hi => pf_snoc (by omega)
  have an : ∀ {u j}, j < nd.length → Anc (pf par) u j → Anc (pf (par ++ [t])) u j := fun hj a => a.congr h.lt (fun i _ b => po i b) hj
  have go : ∀ i, i < nd.length → (nd ++ [w]).getD i 0 = nd.getD i 0 := fun i hi => getD_snoc hi
  have gk : (nd ++ [w]).getD nd.length 0 = w := getD_snoc_last _ _ _
  have up : Anc (pf (par ++ [t])) t nd.length := .step (by omega) (by rw [pk]; exact .refl)
  have wsu : w ∈ su (nd.getD t 0) := by
    obtain ⟨d, hd, _⟩ := h.done t ht
    rw [hd, e]; simp
  refine ⟨by simp [hlp], by rw [List.length_set]; exact h.lr, ?_, fun v hv => ?_, by simp, ?_, fun i a b => ?_, fun i a b => ?_, fun i b => ?_, fun x hx => ?_, ?_, fun i hi => ?_, fun v hv n => ?_, fun i hi n => ?_⟩
  · rw [List.nodup_append]
    refine ⟨h.nodup, by simp, fun a ha b hb q => ?_⟩
    have hb' : b = w := by simpa using hb
    exact hw (hb' ▸ q ▸ ha)
  · rcases List.mem_append.1 hv with q | q
    · exact h.node v q
    · have : v = w := by simpa using q
      subst this; exact hwN
  · rw [go 0 hne]; exact h.first
  · rw [lk] at b
    by_cases c : i = nd.length
    · subst c; rw [pk]; exact ht
    · rw [po i (by omega)]; exact h.lt i a (by omega)
  · rw [lk] at b
    by_cases c : i = nd.length
    · subst c; rw [gk, pk, go t ht]; exact wsu
    · have := h.lt i a (by omega)
      rw [go i (by omega), po i (by omega), go _ (by omega)]; exact h.edge i a (by omega)
  · rw [lk] at b
    by_cases c : i + 1 = nd.length
    · rw [c, pk, show i = nd.length - 1 by omega]; exact an (by omega) hat
    · rw [po (i + 1) (by omega)]; exact an (by omega) (h.next i (by omega))
  · rw [lk]
    rcases List.mem_append.1 hx with q | q
    · obtain ⟨a, b⟩ := h.on x q
      refine ⟨by omega, ?_⟩
      show Anc _ x nd.length
      rcases List.mem_append.1 q with q' | q'
      · have := (List.pairwise_append.1 h.pair).2.2 x q' t (by simp)
        exact (an ht this).trans up
      · have : x = t := by simpa using q'
        subst this; exact up
    · have : x = nd.length := by simpa using q
      subst this; exact ⟨by omega, .refl⟩
  · rw [List.pairwise_append]
    refine ⟨List.Pairwise.imp_of_mem (fun {a b} _ hb q => an (h.on b hb).1 q) h.pair, by simp, fun a ha b hb => ?_⟩
    have : b = nd.length := by simpa using hb
    subst this
    rcases List.mem_append.1 ha with q' | q'
    · have := (List.pairwise_append.1 h.pair).2.2 a q' t (by simp)
      exact (an ht this).trans up
    · have : a = t := by simpa using q'
      subst this; exact up
  · rw [lk] at hi
    by_cases c : i = nd.length
    · subst c
      refine ⟨[], ?_, fun x hx => by cases hx⟩
      rw [gk, other w (fun q => hw (q ▸ at_mem ht)), h.fresh w hwN hw]; rfl
    · have hi' : i < nd.length := by omega
      obtain ⟨d, hd, hall⟩ := h.done i hi'
      rw [go i hi']
      by_cases ct : i = t
      · subst ct
        refine ⟨d ++ [w], by rw [self, hd, e]; simp, fun x hx => ?_⟩
        rcases List.mem_append.1 hx with q | q
        · obtain ⟨a, b⟩ := hall x q
          refine ⟨by simp [a], fun j hj ej lj => ?_⟩
          rw [lk] at hj
          by_cases cj : j = nd.length
          · subst cj; rw [gk] at ej; exact absurd (ej ▸ a) hw
          · rw [go j (by omega)] at ej
            exact an (by omega) (b j (by omega) ej lj)
        · have : x = w := by simpa using q
          subst this
          refine ⟨by simp, fun j hj ej lj => ?_⟩
          rw [lk] at hj
          by_cases cj : j = nd.length
          · subst cj; exact up
          · rw [go j (by omega)] at ej; exact absurd (ej ▸ at_mem (by omega)) hw
      · refine ⟨d, by rw [other _ (fun q => ct (nd_inj h.nodup hi' ht q))]; exact hd, fun x hx => ?_⟩
        obtain ⟨a, b⟩ := hall x hx
        refine ⟨by simp [a], fun j hj ej lj => ?_⟩
        rw [lk] at hj
        by_cases cj : j = nd.length
        · subst cj; rw [gk] at ej; exact absurd (ej ▸ a) hw
        · rw [go j (by omega)] at ej
          exact an (by omega) (b j (by omega) ej lj)
  · have nv : v ∉ nd := fun q => n (by simp [q])
    rw [other v (fun q => nv (q ▸ at_mem ht))]; exact h.fresh v hv nv
  · rw [lk] at hi
    have ci : i ≠ nd.length := fun q => n (by simp [q])
    have cp : i ∉ pth ++ [t] := fun q => n (List.mem_append.2 (.inl q))
    rw [go i (by omega), other _ (fun q => cp (by rw [nd_inj h.nodup (by omega) ht q]; simp))]
    exact h.over i (by omega) cp
/-- The edges between numbers. -/
def FN (su : Nat → List Nat) (nd : List Nat) (i j : Nat) : Prop := i < nd.length ∧ j < nd.length ∧ nd.getD j 0 ∈ su (nd.getD i 0)
theorem Ex.all (h : Ex N root su nd par [] rest) : ∀ i, i < nd.length → ∀ w ∈ su (nd.getD i 0), w ∈ nd ∧ ∀ j, j < nd.length → nd.getD j 0 = w → i < j → Anc (pf par) i j := by
  intro i hi w hw
  obtain ⟨d, hd, hall⟩ := h.done i hi
  rw [h.over i hi (by simp), List.append_nil] at hd
  exact hall w (hd ▸ hw)
theorem Ex.tree (h : Ex N root su nd par [] rest) : Tr nd.length (FN su nd) (pf par) :=
  ⟨h.lt, fun i a b => ⟨by have := h.lt i a b; omega, b, h.edge i a b⟩, fun i j e => ⟨e.1, e.2.1⟩, fun i j e l => (h.all i e.1 _ e.2.2).2 j e.2.1 rfl l, h.next⟩
end
end Go.Proofs.Ytcmliokkamgcdaa
