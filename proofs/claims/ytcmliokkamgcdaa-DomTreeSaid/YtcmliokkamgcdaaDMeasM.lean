/-
  measure in plain words: the sizes as they are added up, and the places as they are given.
-/
import Derived.Test.YtcmliokkamgcdaaDTree
import Derived.Test.YtcmliokkamgcdaaDBack
import Derived.Test.YtcmliokkamgcdaaDSrch
import Derived.Test.YtcmliokkamgcdaaDIdom
namespace Go.Proofs.Ytcmliokkamgcdaa
open Go.RowKit
set_option linter.unusedVariables false

theorem wrapN (a b : Nat) (h : a + b ≤ 1000000) : wrap64 ((a : Int) + (b : Int)) = ((a + b : Nat) : Int) := by
  rw [← IntWalk.i64_left, IntWalk.i64_in _ (by omega)]; omega
/-- One node's size goes to its immediate dominator. -/
def zStep (id : List Int) (z : List Int) (v : Nat) : List Int :=
  (z.set v (wrap64 (z.getD v 0 + 1))).set (id.getD v 0).toNat (wrap64 ((z.set v (wrap64 (z.getD v 0 + 1))).getD (id.getD v 0).toNat 0 + (z.set v (wrap64 (z.getD v 0 + 1))).getD v 0))
theorem zStep_len (id z : List Int) (v : Nat) : (zStep id z v).length = z.length := by simp [zStep]
def zAll (nd : List Nat) (id z : List Int) {m : Nat} (l : List { i : Nat // i < m }) : List Int := l.foldl (fun z x => zStep id z (nd.getD (x.1 + 1) 0)) z
theorem zAll_snoc (nd : List Nat) (id z : List Int) {m : Nat} (l : List { i : Nat // i < m }) (x : { i : Nat // i < m }) : zAll nd id z (l ++ [x]) = zStep id (zAll nd id z l) (nd.getD (x.1 + 1) 0) := by simp [zAll]
theorem zAll_len (nd : List Nat) (id z : List Int) {m : Nat} (l : List { i : Nat // i < m }) : (zAll nd id z l).length = z.length := by
  induction l generalizing z with
  | nil => rfl
  | cons x l ih => show (zAll nd id (zStep id z (nd.getD (x.1 + 1) 0)) l).length = _; rw [ih, zStep_len]
/-- The tree of the immediate dominators, by node. -/
structure TreeOf (N k : Nat) (nd : List Nat) (D : Nat → Nat) (id : List Int) : Prop where
  ln : id.length = N
  k0 : 0 < k
  lk : nd.length = k
  nodup : nd.Nodup
  node : ∀ v ∈ nd, v < N
  at_ : ∀ j, 0 < j → j < k → id.getD (nd.getD j 0) 0 = ((nd.getD (D j) 0 : Nat) : Int)
  lt : ∀ i, 0 < i → i < k → D i < i
  root : id.getD (nd.getD 0 0) 0 = -1
  off : ∀ v, v < N → v ∉ nd → id.getD v 0 = -1
def sumTo (Z : Nat → Nat) : Nat → Nat
  | 0 => 0
  | n + 1 => sumTo Z n + Z n
theorem sumTo_congr {Z Z' : Nat → Nat} : ∀ n, (∀ d, d < n → Z' d = Z d) → sumTo Z' n = sumTo Z n
  | 0, _ => rfl
  | n + 1, h => by
    show sumTo Z' n + Z' n = sumTo Z n + Z n
    rw [sumTo_congr n (fun d hd => h d (by omega)), h n (by omega)]
theorem sumTo_add {Z Z' : Nat → Nat} {p x : Nat} : ∀ n, p < n → Z' p = Z p + x → (∀ d, d < n → d ≠ p → Z' d = Z d) → sumTo Z' n = sumTo Z n + x
  | 0, h, _, _ => by omega
  | n + 1, h, e, o => by
    show sumTo Z' n + Z' n = sumTo Z n + Z n + x
    by_cases c : p = n
    · subst c
      rw [sumTo_congr p (fun d hd => o d (by omega) (by omega)), e]; omega
    · rw [sumTo_add n (by omega) e (fun d hd hn => o d (by omega) hn), o n (by omega) (fun q => c q.symm)]; omega
theorem sumTo_le (Z : Nat → Nat) : ∀ n d, d < n → Z d ≤ sumTo Z n
  | 0, _, h => by omega
  | n + 1, d, h => by
    show Z d ≤ sumTo Z n + Z n
    by_cases c : d = n
    · subst c; omega
    · have := sumTo_le Z n d (by omega); omega
/-- The sizes, by number. -/
def zn (nd : List Nat) (z : List Int) (j : Nat) : Nat := (z.getD (nd.getD j 0) 0).toNat
/-- Between two rounds: all above L are through. -/
structure ZI (N k : Nat) (nd : List Nat) (D : Nat → Nat) (z : List Int) (L : Nat) : Prop where
  ln : z.length = N
  nat : ∀ j, j < k → z.getD (nd.getD j 0) 0 = (zn nd z j : Int)
  sized : Sized k D (zn nd z) L
  sum : sumTo (zn nd z) (L + 1) + (L + 1) = k
  big : ∀ j, L < j → j < k → zn nd z j ≤ k
  off : ∀ v, v < N → v ∉ nd → z.getD v 0 = 0
section
variable {N k L : Nat} {nd : List Nat} {D : Nat → Nat} {id z : List Int}
theorem set_at {z : List Int} {v u : Nat} {x : Int} (h : v < z.length) : (z.set v x).getD u 0 = if u = v then x else z.getD u 0 := by
  by_cases c : u = v
  · subst c; rw [if_pos rfl, List.getD_eq_getElem?_getD, List.getElem?_set_self h]; rfl
  · rw [if_neg c, List.getD_eq_getElem?_getD, List.getElem?_set_ne (Ne.symm c), ← List.getD_eq_getElem?_getD]
theorem sumTo_zero (Z : Nat → Nat) : ∀ n, (∀ d, d < n → Z d = 0) → sumTo Z n = 0
  | 0, _ => rfl
  | n + 1, h => by show sumTo Z n + Z n = 0; rw [sumTo_zero Z n (fun d hd => h d (by omega)), h n (by omega)]
theorem ZI.start (t : TreeOf N k nd D id) : ZI N k nd D (List.replicate N 0) (k - 1) := by
  have z0 : ∀ v, (List.replicate N (0 : Int)).getD v 0 = 0 := fun v => by
    rw [List.getD_eq_getElem?_getD, List.getElem?_replicate]; split <;> rfl
  have zz : ∀ j, zn nd (List.replicate N 0) j = 0 := fun j => by unfold zn; rw [z0]; rfl
  have := t.k0
  refine ⟨by simp, fun j _ => by rw [zz, z0]; rfl, Sized.start (by omega) _ (fun d _ => zz d), ?_, fun j _ _ => by rw [zz]; omega, fun v _ _ => z0 v⟩
  rw [sumTo_zero _ _ (fun d _ => zz d)]; omega
theorem ZI.step (t : TreeOf N k nd D id) (hk : k ≤ 100000) (h : ZI N k nd D z (L + 1)) (hL : L + 1 < k) : ZI N k nd D (zStep id z (nd.getD (L + 1) 0)) L := by
  have hD := t.lt (L + 1) (by omega) hL
  have lk := t.lk
  have hv : nd.getD (L + 1) 0 < N := t.node _ (at_mem (by omega))
  have hp : nd.getD (D (L + 1)) 0 < N := t.node _ (at_mem (by omega))
  have inj : ∀ i j, i < k → j < k → nd.getD i 0 = nd.getD j 0 → i = j := fun i j hi hj e => nd_inj t.nodup (by omega) (by omega) e
  obtain ⟨v, ev⟩ : ∃ v, nd.getD (L + 1) 0 = v := ⟨_, rfl⟩
  obtain ⟨p, ep⟩ : ∃ p, nd.getD (D (L + 1)) 0 = p := ⟨_, rfl⟩
  have hvp : v ≠ p := fun e => by have := inj (L + 1) (D (L + 1)) hL (by omega) (by rw [ev, ep, e]); omega
  have eid : (id.getD v 0).toNat = p := by rw [← ev, t.at_ (L + 1) (by omega) hL, ep]; rfl
  have zv : z.getD v 0 = (zn nd z (L + 1) : Int) := by rw [← ev]; exact h.nat (L + 1) hL
  have zp : z.getD p 0 = (zn nd z (D (L + 1)) : Int) := by rw [← ep]; exact h.nat _ (by omega)
  have hln := h.ln
  rw [ev] at hv ⊢
  rw [ep] at hp
  have hs := h.sum
  have b1 := sumTo_le (zn nd z) (L + 1 + 1) (L + 1) (by omega)
  have b2 := sumTo_le (zn nd z) (L + 1 + 1) (D (L + 1)) (by omega)
  have w1 : wrap64 ((zn nd z (L + 1) : Int) + 1) = ((zn nd z (L + 1) + 1 : Nat) : Int) := wrapN (zn nd z (L + 1)) 1 (by omega)
  have w2 : wrap64 ((zn nd z (D (L + 1)) : Int) + ((zn nd z (L + 1) + 1 : Nat) : Int)) = ((zn nd z (D (L + 1)) + (zn nd z (L + 1) + 1) : Nat) : Int) := wrapN _ _ (by clear w1; omega)
  have HW1 := Lib.hid w1
  have HW2 := Lib.hid w2
  clear w1 w2
  have all : ∀ u, (zStep id z v).getD u 0 = if u = p then ((zn nd z (D (L + 1)) + (zn nd z (L + 1) + 1) : Nat) : Int) else if u = v then ((zn nd z (L + 1) + 1 : Nat) : Int) else z.getD u 0 := fun u => by
    unfold zStep
    rw [eid, zv, HW1.out, set_at (by rw [List.length_set]; omega)]
    by_cases c : u = p
    · rw [if_pos c, if_pos c, set_at (by omega), set_at (by omega), if_neg (Ne.symm hvp), if_pos rfl, zp, HW2.out]
    · rw [if_neg c, if_neg c, set_at (by omega)]
  have n1 : zn nd (zStep id z v) (L + 1) = zn nd z (L + 1) + 1 := by
    have : (zStep id z v).getD (nd.getD (L + 1) 0) 0 = ((zn nd z (L + 1) + 1 : Nat) : Int) := by rw [ev, all, if_neg hvp, if_pos rfl]
    show ((zStep id z v).getD (nd.getD (L + 1) 0) 0).toNat = _
    rw [this]; rfl
  have n2 : zn nd (zStep id z v) (D (L + 1)) = zn nd z (D (L + 1)) + (zn nd z (L + 1) + 1) := by
    have : (zStep id z v).getD (nd.getD (D (L + 1)) 0) 0 = ((zn nd z (D (L + 1)) + (zn nd z (L + 1) + 1) : Nat) : Int) := by rw [ep, all, if_pos rfl]
    show ((zStep id z v).getD (nd.getD (D (L + 1)) 0) 0).toNat = _
    rw [this]; rfl
  have n3' : ∀ j, j < k → j ≠ L + 1 → j ≠ D (L + 1) → (zStep id z v).getD (nd.getD j 0) 0 = z.getD (nd.getD j 0) 0 := fun j hj a b => by
    rw [all, if_neg (fun e => b (inj _ _ hj (by omega) (by rw [e, ep]))), if_neg (fun e => a (inj _ _ hj hL (by rw [e, ev])))]
  have n3 : ∀ j, j < k → j ≠ L + 1 → j ≠ D (L + 1) → zn nd (zStep id z v) j = zn nd z j := fun j hj a b => by unfold zn; rw [n3' j hj a b]
  have s1 : sumTo (zn nd (zStep id z v)) (L + 1) = sumTo (zn nd z) (L + 1) + (zn nd z (L + 1) + 1) := sumTo_add (L + 1) hD n2 (fun d hd hn => n3 d (by omega) (by omega) hn)
  have s2 : sumTo (zn nd z) (L + 1 + 1) = sumTo (zn nd z) (L + 1) + zn nd z (L + 1) := rfl
  obtain ⟨Z', hZ'⟩ : ∃ Z' : Nat → Nat, ∀ j, Z' j = if j < k then zn nd (zStep id z v) j else zn nd z j := ⟨_, fun _ => rfl⟩
  have hsz : Sized k D Z' L := h.sized.next hL t.lt (by rw [hZ', if_pos hL]; exact n1) (by rw [hZ', if_pos (by omega)]; exact n2) (fun j a b => by
    rw [hZ']; split
    · rename_i hj; exact n3 j hj a b
    · rfl)
  refine ⟨by rw [zStep_len]; exact hln, fun j hj => ?_, ?_, by omega, fun j a b => ?_, fun u hu hn => ?_⟩
  · by_cases c1 : j = L + 1
    · subst c1; rw [n1, ev, all, if_neg hvp, if_pos rfl]
    · by_cases c2 : j = D (L + 1)
      · subst c2; rw [n2, ep, all, if_pos rfl]
      · rw [n3 j hj c1 c2, n3' j hj c1 c2]; exact h.nat j hj
  · refine ⟨fun d a b => ?_, fun d a b => ?_⟩
    · have := hsz.full d a b
      rw [hZ', if_pos b] at this
      rw [this, cs_congr (z := zn nd (zStep id z v)) (z' := Z') (k - (d + 1)) (by omega) (fun c x y => by rw [hZ', if_pos y])]
    · have := hsz.part d a b
      rw [hZ', if_pos b] at this
      rw [this, cs_congr (z := zn nd (zStep id z v)) (z' := Z') (k - (L + 1)) (by omega) (fun c x y => by rw [hZ', if_pos y])]
  · by_cases c1 : j = L + 1
    · subst c1; rw [n1]; omega
    · rw [n3 j b c1 (by omega)]; exact h.big j (by omega) b
  · rw [all, if_neg (fun e => hn (by rw [e, ← ep]; exact at_mem (by omega))), if_neg (fun e => hn (by rw [e, ← ev]; exact at_mem (by omega)))]; exact h.off u hu hn
/-- After all rounds. -/
theorem ZI.all (t : TreeOf N k nd D id) (hk : k ≤ 100000) : ZI N k nd D (zAll nd id (List.replicate N 0) (desc (k - 1) (k - 1))) 0 := by
  have : ∀ q, q ≤ k - 1 → ZI N k nd D (zAll nd id (List.replicate N 0) (desc (k - 1) q)) (k - 1 - q) := by
    intro q
    induction q with
    | zero => intro _; exact ZI.start t
    | succ q ih =>
      intro hq
      have h := ih (by omega)
      rw [desc_succ (i := k - 1 - 1 - q) (by omega) rfl, zAll_snoc]
      show ZI N k nd D (zStep id _ (nd.getD (k - 1 - 1 - q + 1) 0)) _
      rw [show k - 1 - q = (k - 1 - (q + 1)) + 1 by omega] at h
      have := h.step t hk (by omega)
      rw [show k - 1 - (q + 1) + 1 = k - 1 - 1 - q + 1 by omega] at this
      exact this
  have h := this (k - 1) (Nat.le_refl _)
  rw [Nat.sub_self] at h
  exact h
/-- The sizes when the root is counted too. -/
structure ZF (N k : Nat) (nd : List Nat) (D : Nat → Nat) (z : List Int) : Prop where
  ln : z.length = N
  nat : ∀ j, j < k → z.getD (nd.getD j 0) 0 = (zn nd z j : Int)
  sized : SizedAll k D (zn nd z)
  big : ∀ j, j < k → zn nd z j ≤ k + 1
  off : ∀ v, v < N → v ∉ nd → z.getD v 0 = 0
theorem ZI.root (t : TreeOf N k nd D id) (h : ZI N k nd D z 0) : ZF N k nd D (z.set (nd.getD 0 0) (z.getD (nd.getD 0 0) 0 + 1)) := by
  have lk := t.lk
  have k0 := t.k0
  have hv : nd.getD 0 0 < N := t.node _ (at_mem (by omega))
  have hln := h.ln
  have hs := h.sum
  have s2 : sumTo (zn nd z) (0 + 1) = zn nd z 0 := by show 0 + zn nd z 0 = _; omega
  have inj : ∀ j, j < k → 0 < j → nd.getD j 0 ≠ nd.getD 0 0 := fun j hj h0 e => by have := nd_inj t.nodup (by omega) (by omega) e; omega
  have e0 : (z.set (nd.getD 0 0) (z.getD (nd.getD 0 0) 0 + 1)).getD (nd.getD 0 0) 0 = ((zn nd z 0 + 1 : Nat) : Int) := by rw [set_at (by omega), if_pos rfl, h.nat 0 k0]; omega
  have ej : ∀ j, j < k → 0 < j → (z.set (nd.getD 0 0) (z.getD (nd.getD 0 0) 0 + 1)).getD (nd.getD j 0) 0 = z.getD (nd.getD j 0) 0 := fun j hj h0 => by rw [set_at (by omega), if_neg (inj j hj h0)]
  have n0 : zn nd (z.set (nd.getD 0 0) (z.getD (nd.getD 0 0) 0 + 1)) 0 = zn nd z 0 + 1 := by
    show Int.toNat _ = _
    rw [e0]; rfl
  have nj : ∀ j, j < k → 0 < j → zn nd (z.set (nd.getD 0 0) (z.getD (nd.getD 0 0) 0 + 1)) j = zn nd z j := fun j hj h0 => by unfold zn; rw [ej j hj h0]
  obtain ⟨Z', hZ'⟩ : ∃ Z' : Nat → Nat, ∀ j, Z' j = if j < k then zn nd (z.set (nd.getD 0 0) (z.getD (nd.getD 0 0) 0 + 1)) j else zn nd z j := ⟨_, fun _ => rfl⟩
  have hsz : SizedAll k D Z' := h.sized.root k0 (by rw [hZ', if_pos k0]; exact n0) (fun j a => by
    rw [hZ']; split
    · rename_i hj; exact nj j hj a
    · rfl)
  refine ⟨by rw [List.length_set]; exact hln, fun j hj => ?_, ⟨fun d b => ?_⟩, fun j hj => ?_, fun u hu hn => ?_⟩
  · by_cases c : j = 0
    · subst c; rw [n0, e0]
    · rw [nj j hj (by omega), ej j hj (by omega)]; exact h.nat j hj
  · have := hsz.is d b
    rw [hZ', if_pos b] at this
    rw [this, cs_congr (z := zn nd (z.set (nd.getD 0 0) (z.getD (nd.getD 0 0) 0 + 1))) (z' := Z') (k - (d + 1)) (by omega) (fun c x y => by rw [hZ', if_pos y])]
  · by_cases c : j = 0
    · subst c; rw [n0]; omega
    · rw [nj j hj (by omega)]; have := h.big j (by omega) hj; omega
  · rw [set_at (by omega), if_neg (fun e => hn (by rw [e]; exact at_mem (by omega)))]; exact h.off u hu hn
/-- The places of the first m numbers, by node. -/
structure PI (N k : Nat) (nd : List Nat) (D : Nat → Nat) (z pl fr : List Int) (m : Nat) : Prop where
  lp : pl.length = N
  lf : fr.length = N
  np : ∀ j, j < m → pl.getD (nd.getD j 0) 0 = (zn nd pl j : Int)
  nf : ∀ j, j < m → fr.getD (nd.getD j 0) 0 = (zn nd fr j : Int)
  pla : Placed k D (zn nd z) m (zn nd pl) (zn nd fr)
  z0 : zn nd pl 0 = 0
  off : ∀ v, v < N → v ∉ nd → pl.getD v 0 = -1
theorem anc0 (t : TreeOf N k nd D id) : ∀ n b, b < n → b < k → Anc D 0 b
  | 0, _, h, _ => by omega
  | n + 1, b, h, hb => by
    by_cases c : b = 0
    · subst c; exact .refl
    · exact .step (by omega) (anc0 t n (D b) (by have := t.lt b (by omega) hb; omega) (by have := t.lt b (by omega) hb; omega))
theorem PI.bnd {pl fr : List Int} {m : Nat} (t : TreeOf N k nd D id) (hz : ZF N k nd D z) (h : PI N k nd D z pl fr m) (h0 : 0 < m) (hm : m ≤ k) : ∀ j, j < m → zn nd fr j ≤ k + 1 ∧ zn nd pl j ≤ k + 1 := fun j hj => by
  have h1 := h.pla.inn 0 j h0 hj (anc0 t (j + 1) j (by omega) (by omega))
  have h2 := h.pla.free j hj
  have h3 := hz.big 0 t.k0
  have := h.z0
  omega
theorem PI.start (t : TreeOf N k nd D id) (hz : ZF N k nd D z) : PI N k nd D z ((List.replicate N (-1)).set (nd.getD 0 0) 0) ((List.replicate N 0).set (nd.getD 0 0) 1) 1 := by
  have lk := t.lk
  have k0 := t.k0
  have hv : nd.getD 0 0 < N := t.node _ (at_mem (by omega))
  have l1 : nd.getD 0 0 < (List.replicate N (-1 : Int)).length := by rw [List.length_replicate]; exact hv
  have l2 : nd.getD 0 0 < (List.replicate N (0 : Int)).length := by rw [List.length_replicate]; exact hv
  have e0 : ((List.replicate N (-1)).set (nd.getD 0 0) (0 : Int)).getD (nd.getD 0 0) 0 = 0 := by rw [set_at l1, if_pos rfl]
  have e1 : ((List.replicate N 0).set (nd.getD 0 0) (1 : Int)).getD (nd.getD 0 0) 0 = 1 := by rw [set_at l2, if_pos rfl]
  have n0 : zn nd ((List.replicate N (-1)).set (nd.getD 0 0) (0 : Int)) 0 = 0 := by unfold zn; rw [e0]; rfl
  have n1 : zn nd ((List.replicate N 0).set (nd.getD 0 0) (1 : Int)) 0 = 1 := by unfold zn; rw [e1]; rfl
  refine ⟨by simp, by simp, fun j hj => ?_, fun j hj => ?_, Placed.start hz.sized k0 n0 n1, n0, fun v hv2 hn => ?_⟩
  · have : j = 0 := by omega
    subst this; rw [e0, n0]; rfl
  · have : j = 0 := by omega
    subst this; rw [e1, n1]; rfl
  · rw [set_at l1, if_neg (fun e => hn (by rw [e]; exact at_mem (by omega)))]
    simp [List.getD_eq_getElem?_getD, hv2]
theorem PI.step {pl fr : List Int} {m f s : Nat} (t : TreeOf N k nd D id) (hz : ZF N k nd D z) (h : PI N k nd D z pl fr m) (h0 : 0 < m) (hm : m < k) (hf : f = zn nd fr (D m)) (hs : s = zn nd z m) :
    PI N k nd D z (pl.set (nd.getD m 0) (f : Int)) ((fr.set (nd.getD (D m) 0) ((f + s : Nat) : Int)).set (nd.getD m 0) ((f + 1 : Nat) : Int)) (m + 1) := by
  subst hf hs
  have lk := t.lk
  have hD := t.lt m h0 hm
  have hv : nd.getD m 0 < N := t.node _ (at_mem (by omega))
  have hp : nd.getD (D m) 0 < N := t.node _ (at_mem (by omega))
  have llp := h.lp
  have llf := h.lf
  have inj : ∀ i j, i < k → j < k → nd.getD i 0 = nd.getD j 0 → i = j := fun i j hi hj e => nd_inj t.nodup (by omega) (by omega) e
  obtain ⟨f, ef⟩ : ∃ f, zn nd fr (D m) = f := ⟨_, rfl⟩
  obtain ⟨s, es⟩ : ∃ s, zn nd z m = s := ⟨_, rfl⟩
  rw [ef, es]
  have pa : ∀ j, j < k → (pl.set (nd.getD m 0) (f : Int)).getD (nd.getD j 0) 0 = if j = m then (f : Int) else pl.getD (nd.getD j 0) 0 := fun j hj => by
    rw [set_at (by omega)]
    by_cases c : j = m
    · subst c; rw [if_pos rfl, if_pos rfl]
    · rw [if_neg (fun e => c (inj _ _ hj hm e)), if_neg c]
  have fa : ∀ j, j < k → ((fr.set (nd.getD (D m) 0) ((f + s : Nat) : Int)).set (nd.getD m 0) ((f + 1 : Nat) : Int)).getD (nd.getD j 0) 0 = if j = m then ((f + 1 : Nat) : Int) else if j = D m then ((f + s : Nat) : Int) else fr.getD (nd.getD j 0) 0 := fun j hj => by
    rw [set_at (by rw [List.length_set]; omega)]
    by_cases c : j = m
    · subst c; rw [if_pos rfl, if_pos rfl]
    · rw [if_neg (fun e => c (inj _ _ hj hm e)), if_neg c, set_at (by omega)]
      by_cases c2 : j = D m
      · subst c2; rw [if_pos rfl, if_pos rfl]
      · rw [if_neg (fun e => c2 (inj _ _ hj (by omega) e)), if_neg c2]
  have pn : ∀ j, j < k → zn nd (pl.set (nd.getD m 0) (f : Int)) j = if j = m then f else zn nd pl j := fun j hj => by
    show Int.toNat _ = _
    rw [pa j hj]; split <;> rfl
  have fn : ∀ j, j < k → zn nd ((fr.set (nd.getD (D m) 0) ((f + s : Nat) : Int)).set (nd.getD m 0) ((f + 1 : Nat) : Int)) j = if j = m then f + 1 else if j = D m then f + s else zn nd fr j := fun j hj => by
    show Int.toNat _ = _
    rw [fa j hj]; split
    · rfl
    · split <;> rfl
  refine ⟨by rw [List.length_set]; exact llp, by rw [List.length_set, List.length_set]; exact llf, fun j hj => ?_, fun j hj => ?_, ?_, ?_, fun v hv2 hn => ?_⟩
  · rw [pa j (by omega), pn j (by omega)]
    by_cases c : j = m
    · rw [if_pos c, if_pos c]
    · rw [if_neg c, if_neg c]; exact h.np j (by omega)
  · rw [fa j (by omega), fn j (by omega)]
    by_cases c : j = m
    · rw [if_pos c, if_pos c]
    · rw [if_neg c, if_neg c]
      by_cases c2 : j = D m
      · rw [if_pos c2, if_pos c2]
      · rw [if_neg c2, if_neg c2]; exact h.nf j (by omega)
  · refine h.pla.next hz.sized t.lt h0 hm ?_ (fun j hj => ?_) ?_ ?_ (fun j hj hn => ?_)
    · rw [pn m hm, if_pos rfl, ef]
    · rw [pn j (by omega), if_neg (by omega)]
    · rw [fn (D m) (by omega), if_neg (by omega), if_pos rfl, ef, es]
    · rw [fn m hm, if_pos rfl, ef]
    · rw [fn j (by omega), if_neg (by omega), if_neg hn]
  · rw [pn 0 t.k0, if_neg (by omega)]; exact h.z0
  · rw [set_at (by omega), if_neg (fun e => hn (by rw [e]; exact at_mem (by omega)))]; exact h.off v hv2 hn
end
end Go.Proofs.Ytcmliokkamgcdaa
