/-
  Postorder and Reach from one node at every graph: their answers named once, and what holds between them.
-/
import Derived.Test.YthgnbpiemkcdhaaGPost
import Derived.Test.YthgnbpiemkcdhaaGOrderM
import Derived.Test.YthgnbpiemkcdhaaGRAll
namespace Go.Proofs.Ythgnbpiemkcdhaa
open Go.RowKit Go.Shelf Go.WideShapes
set_option linter.unusedVariables false

def postA (N : Int) (ps : List (Int × Int)) (root : Int) : List Int := if gchk N ps = 0 ∧ isNd N root = true then postL N.toNat ps root else []
def reachA (N : Int) (ps : List (Int × Int)) (root : Int) : List Int := if gchk N ps = 0 then reachL N ps [root] else []
theorem own_cap {w : World} {base : Nat} {a : Option Addr} {n c : Nat} {zs : List Int} (h : Own w base (.slice a n c) zs) (hn : zs.length = n) : n ≤ c := by
  rcases h.2 with ⟨e, h0⟩ | ⟨g, cap, cur, e, _, _, h3, _⟩
  · omega
  · simp only [Value.slice.injEq] at e
    obtain ⟨_, _, rfl⟩ := e
    omega
theorem postA_at (N : Int) (a : Option Addr) (n c : Nat) (ps : List (Int × Int)) (root : Int) (zs : List Int) (m : Nat) (hz : postA N ps root = zs) (hm : zs.length = m) (w : World) (hl : ps.length = n) (hE : Edg w a c ps) :
    Calls Try.prog 28 #[.agg #[.int .i64 N, .slice a n c], .int .i64 root] w fun e w' => ∃ b k, e = .returned (.slice b m k) ∧ Ints w' b zs ∧ m ≤ maxLen ∧ m ≤ k ∧ Below w.heap.size w w' := by
  have hcap : n ≤ maxLen := by have := hE.cap; have := hE.max; omega
  unfold postA at hz
  by_cases h : gchk N ps = 0 ∧ isNd N root = true
  · rw [if_pos h] at hz
    obtain ⟨h1, h2⟩ := h
    have h3 := isNd_iff.1 h2
    obtain ⟨M, rfl⟩ : ∃ M : Nat, N = (M : Int) := ⟨N.toNat, by omega⟩
    obtain ⟨r, rfl⟩ : ∃ r : Nat, root = (r : Int) := ⟨root.toNat, by omega⟩
    rw [Int.toNat_natCast] at hz
    refine (post_good M a n c ps hl r w hE h1 (by omega)).mono ?_
    rintro e w' ⟨v, rfl, ho, hb⟩
    rw [hz] at ho
    have hle := own_le ho
    obtain ⟨b, k, rfl, hi⟩ := ho.shape
    have hc := own_cap ho rfl
    exact ⟨b, k, by rw [hm], hi, by rw [← hm]; exact hle, by rw [← hm]; exact hc, hb⟩
  · rw [if_neg h] at hz
    subst hz
    obtain rfl : m = 0 := by rw [← hm]; rfl
    refine (post_bad N a n c ps hl root w hcap hE.pairs _ rfl ?_).mono ?_
    · by_cases h1 : gchk N ps = 0
      · right
        cases h2 : isNd N root with
        | true => exact absurd ⟨h1, h2⟩ h
        | false => rfl
      · exact .inl h1
    · rintro e w' ⟨rfl, hb⟩
      exact ⟨_, _, rfl, fun h => absurd h (by simp), Nat.zero_le _, Nat.le_refl _, hb⟩
theorem reachA_at (N : Int) (a : Option Addr) (n c : Nat) (ps : List (Int × Int)) (b : Option Addr) (d : Nat) (root : Int) (zs : List Int) (m : Nat) (hz : reachA N ps root = zs) (hm : zs.length = m) (w : World) (hl : ps.length = n) (hE : Edg w a c ps) (hv : Ints w b [root]) :
    Calls Try.prog 23 #[.agg #[.int .i64 N, .slice a n c], .slice b 1 d] w fun e w' => ∃ a2 k, e = .returned (.slice a2 m k) ∧ Ints w' a2 zs ∧ m ≤ maxLen ∧ Below w.heap.size w w' := by
  have hcap : n ≤ maxLen := by have := hE.cap; have := hE.max; omega
  unfold reachA at hz
  by_cases h : gchk N ps = 0
  · rw [if_pos h] at hz
    obtain ⟨M, rfl⟩ : ∃ M : Nat, N = (M : Int) := ⟨N.toNat, by have := (gchk_ok h).lo; omega⟩
    exact reach_at M (M : Int) rfl a n c ps b d root zs m hz hm w hl hE h hv
  · rw [if_neg h] at hz
    subst hz hl
    obtain rfl : m = 0 := by rw [← hm]; rfl
    refine (reach_bad N a c ps b 1 d w hcap hE.pairs h).mono ?_
    rintro e w' ⟨rfl, hb⟩
    exact ⟨_, _, rfl, fun h => absurd h (by simp), Nat.zero_le _, hb⟩
/-- What GraphOrder asks of the two lists. -/
structure OrdF (N : Int) (ps : List (Int × Int)) (root : Int) (P R : List Int) : Prop where
  len : R.length = P.length
  has : ∀ k, k < P.length → R.contains (P.getD k 0) = true
  new : ∀ k, k < P.length → (P.take k).contains (P.getD k 0) = false
  last : 0 < P.length → P.getD (P.length - 1) 0 = root
  down : gchk N ps = 0 → (∀ j, j < ps.length → (ps.getD j (0, 0)).2 < (ps.getD j (0, 0)).1) → ∀ k, k < P.length → ∀ y ∈ succA N ps (P.getD k 0), (P.take k).contains y = true
theorem ordF (N : Int) (ps : List (Int × Int)) (root : Int) : OrdF N ps root (postA N ps root) (reachA N ps root) := by
  by_cases h : gchk N ps = 0
  · have hg := gchk_ok h
    obtain ⟨M, rfl⟩ : ∃ M : Nat, N = (M : Int) := ⟨N.toNat, by have := hg.lo; omega⟩
    have hR : reachA (M : Int) ps root = reachL (M : Int) ps [root] := by unfold reachA; rw [if_pos h]
    by_cases h2 : isNd (M : Int) root = true
    · have h3 := isNd_iff.1 h2
      have hP : postA (M : Int) ps root = postL M ps root := by unfold postA; rw [if_pos ⟨h, h2⟩, Int.toNat_natCast]
      rw [hP, hR]
      obtain ⟨hnd, ⟨l, hl⟩, hm⟩ := post_spec hg h3.1 h3.2
      have hp := post_reach hg h3.1 h3.2
      have hget : ∀ k, k < (postL M ps root).length → (postL M ps root).getD k 0 ∈ postL M ps root := fun k hk => mem_getD _ k hk
      have hsplit : ∀ k, k < (postL M ps root).length → postL M ps root = (postL M ps root).take k ++ (postL M ps root).getD k 0 :: (postL M ps root).drop (k + 1) := fun k hk => by
        conv => lhs; rw [← List.take_append_drop k (postL M ps root), List.drop_eq_getElem_cons hk]
        simp [List.getD_eq_getElem?_getD, hk]
      refine ⟨hp.length_eq.symm, fun k hk => List.contains_iff_mem.2 (hp.mem_iff.1 (hget k hk)), fun k hk => ?_, fun _ => by rw [hl]; simp [List.getD_eq_getElem?_getD], fun _ hdn k hk y hy => ?_⟩
      · rw [← Bool.not_eq_true, List.contains_iff_mem]
        intro hx
        have := hsplit k hk
        rw [this, List.nodup_append] at hnd
        exact hnd.2.2 _ hx _ (by simp) rfl
      · unfold succA at hy
        rw [if_pos h, mem_succL] at hy
        have ho := post_ord hg (fun x y hxy => by
          obtain ⟨j, hj, e⟩ := List.getElem_of_mem hxy
          have := hdn j hj
          rwa [show ps.getD j (0, 0) = (x, y) by simp [List.getD_eq_getElem?_getD, hj, e]] at this) h3.1 h3.2
        exact List.contains_iff_mem.2 (ho _ _ _ (hsplit k hk) y hy)
    · have hP : postA (M : Int) ps root = [] := by unfold postA; rw [if_neg (fun e => h2 e.2)]
      have hE : reachL (M : Int) ps [root] = [] := List.eq_nil_iff_forall_not_mem.2 fun x hx => h2 ((reach_iff hg _ _).1 hx).1
      rw [hP, hR, hE]
      exact ⟨rfl, by simp, by simp, by simp, by simp⟩
  · have hP : postA N ps root = [] := by unfold postA; rw [if_neg (fun e => h e.1)]
    have hR : reachA N ps root = [] := by unfold reachA; rw [if_neg h]
    rw [hP, hR]
    exact ⟨rfl, by simp, by simp, by simp, by simp⟩
theorem Ints.take {w : World} {a : Option Addr} {zs : List Int} (h : Ints w a zs) (k : Nat) : Ints w a (zs.take k) := fun h0 => by
  rw [List.length_take] at h0
  obtain ⟨b, off, rfl, hc⟩ := h (by omega)
  refine ⟨b, off, rfl, fun i hi => ?_⟩
  rw [List.length_take] at hi
  rw [hc i (by omega)]
  simp [List.getD_eq_getElem?_getD, show i < k by omega]
end Go.Proofs.Ythgnbpiemkcdhaa
