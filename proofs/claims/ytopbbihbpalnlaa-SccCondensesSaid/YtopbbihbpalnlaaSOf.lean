/-
  Of, and what it says.
-/
import Derived.Test.YtopbbihbpalnlaaSComps
namespace Go.Proofs.Ytopbbihbpalnlaa
open Go.RowKit
set_option linter.unusedVariables false
/-- What Of returns: each node's list. -/
def ofL (N : Int) (ps : List (Int × Int)) (L : List (List Nat)) : List Int := if gchk N ps = 0 then idxTo N.toNat (L.map ni) L.length else []
theorem comps_law (N : Int) (a : Option Addr) (n c : Nat) (ps : List (Int × Int)) (hl : ps.length = n) (hn : n ≤ maxLen) (w : World) (hE : Pairs w a ps) (k : Int) (hk : gchk N ps = k) : Calls Try.prog 11 #[.agg #[.int .i64 N, .slice a n c]] w fun e w' => Below w.heap.size w w' ∧ ∃ L m a1 c1, L.length = m ∧ e = .returned (.tuple #[.slice a1 m c1, .int .i64 k]) ∧ RL w' (.slice a1 m c1) (L.map ni) ∧ CL N ps L := by
  refine (components_any N a n c ps hl hn w hE).mono ?_
  rintro e w' ⟨u, L, he, hR, hb, hC⟩
  obtain ⟨a1, c1, rfl, hz⟩ := id hR
  rw [List.length_map] at hR he
  exact ⟨hb, L, L.length, a1, c1, rfl, by rw [he, hk], hR, hC⟩
section
variable {N : Nat} {su : Nat → List Nat} {L : List (List Nat)}
theorem CC.hd_mem (h : CC N su L) {i : Nat} (hi : i < L.length) : hdL L i ∈ L.getD i [] := by
  have := h.ne i hi
  unfold hdL
  cases hc : L.getD i [] with
  | nil => exact absurd hc this
  | cons x r => simp
theorem CC.count (h : CC N su L) : L.length ≤ N := by
  have h1 : ((List.range L.length).map (hdL L)).Nodup := by
    unfold List.Nodup
    rw [List.pairwise_map]
    refine List.Pairwise.imp_of_mem ?_ (List.nodup_range (n := L.length))
    intro a b ha hb hne e
    rw [List.mem_range] at ha hb
    exact hne (h.dis a b ha hb _ (h.hd_mem ha) (e ▸ h.hd_mem hb))
  have := nodupLe (N := N) h1 (fun x hx => by
    obtain ⟨i, hi, e⟩ := List.mem_map.mp hx
    rw [List.mem_range] at hi
    exact e ▸ h.lt i hi _ (h.hd_mem hi))
  simpa using this
theorem CC.nd (h : CC N su L) {i : Nat} (hi : i < L.length) : (L.getD i []).Nodup := (h.asc i hi).imp fun h => by omega
theorem CC.fits (h : CC N su L) (i : Nat) (hi : i < L.length) : ∀ x ∈ (L.map ni).getD i [], 0 ≤ x ∧ x < (N : Int) := by
  intro x hx
  rw [map_ni_at] at hx
  obtain ⟨h1, h2⟩ := ni_nonneg hx
  have := h.lt i hi _ h2
  omega
theorem CC.ix (h : CC N su L) {i : Nat} (hi : i < L.length) {v : Nat} (hv : v ∈ L.getD i []) : (idxTo N (L.map ni) L.length).getD v 0 = (i : Int) := by
  refine idx_at N (L.map ni) (fun c hc x hx => ?_) (fun i j hi hj x h1 h2 => ?_) L.length (by simp) i hi v (by rw [map_ni_at]; exact mem_ni.mpr hv)
  · obtain ⟨k, hk, e⟩ := List.getElem_of_mem hc
    rw [List.length_map] at hk
    refine h.fits k hk x ?_
    rw [List.getD_eq_getElem?_getD, List.getElem?_eq_getElem (by rw [List.length_map]; exact hk), Option.getD_some, e]
    exact hx
  · rw [map_ni_at] at h1 h2
    rw [List.length_map] at hi hj
    exact h.dis i j hi hj _ (ni_nonneg h1).2 (ni_nonneg h2).2
/-- A node's list. -/
theorem CC.of (h : CC N su L) {v : Nat} (hv : v < N) : ∃ i, i < L.length ∧ v ∈ L.getD i [] ∧ (idxTo N (L.map ni) L.length).getD v 0 = (i : Int) := by
  obtain ⟨i, hi, hm⟩ := h.all v hv
  exact ⟨i, hi, hm, h.ix hi hm⟩
theorem CC.same (h : CC N su L) {v w : Nat} (hv : v < N) (hw : w < N) : (idxTo N (L.map ni) L.length).getD v 0 = (idxTo N (L.map ni) L.length).getD w 0 ↔ Rc su v w ∧ Rc su w v := by
  obtain ⟨i, hi, hm, e1⟩ := h.of hv
  obtain ⟨j, hj, hk, e2⟩ := h.of hw
  rw [e1, e2]
  constructor
  · intro e
    have : i = j := by omega
    subst this
    exact (h.scc i hi v hm w).mp hk
  · intro h3
    have := (h.scc i hi v hm w).mpr h3
    rw [h.dis i j hi hj _ this hk]
end
def OfEnd (w : World) (N : Int) (ps : List (Int × Int)) (k : Int) (e : Ending) (w' : World) : Prop :=
  ∃ L m b d, (ofL N ps L).length = m ∧ e = .returned (.tuple #[.slice b m d, .int .i64 k]) ∧ Ints w' b (ofL N ps L) ∧ Below w.heap.size w w' ∧ CL N ps L
set_option maxRecDepth 100000 in
set_option maxHeartbeats 1000000 in
theorem of_any (N : Int) (a : Option Addr) (n c : Nat) (ps : List (Int × Int)) (hl : ps.length = n) (hn : n ≤ maxLen) (w : World) (hE : Pairs w a ps) (k : Int) (hk : gchk N ps = k) : Calls Try.prog 13 #[.agg #[.int .i64 N, .slice a n c]] w (OfEnd w N ps k) := by
  obtain ⟨w1, hw1⟩ : ∃ w1, w.alloc (Obj.cells #[Value.int .i64 N, Value.slice a n c] 24) = w1 := ⟨_, rfl⟩
  have hs1 : w.heap.size < w1.heap.size := by rw [← hw1]; simp
  have g0 : w1.cell? ⟨w.heap.size, 0, none⟩ = some (.int .i64 N) := by rw [← hw1]; simp [go_sem]
  have g1 : w1.cell? ⟨w.heap.size, 1, none⟩ = some (.slice a n c) := by rw [← hw1]; simp [go_sem]
  have HB1 : Hid (Below w.heap.size w w1) := by show Below _ _ _; rw [← hw1]; exact (Below.refl w.heap.size w).alloc (Nat.le_refl _) _
  have HE := Lib.hid (hE.below HB1.out (Nat.le_refl _))
  have Hl := Lib.hid hl
  have Hk := Lib.hid hk
  have Hw1 := Lib.hid hw1
  clear hl hk hE hw1
  go_enter Try.func13, Try.ntmps13
  go_wp2_with fail
  rw [Hw1.out]
  refine (comps_law N a n c ps Hl.out hn w1 HE.out k Hk.out).mono ?_
  rintro e w2 ⟨hb2, L, m, a1, c1, hm, rfl, hR, hC⟩
  have k0 := (hb2.cell (p := ⟨w.heap.size, 0, none⟩) hs1).trans g0
  have HB2 := Lib.hid (HB1.out.trans (hb2.mono (Nat.le_of_lt hs1)))
  by_cases hk0 : k = 0
  · have e0 : (k != 0) = false := by rw [hk0]; rfl
    have hg := gchk_ok (show gchk N ps = 0 by rw [Hk.out]; exact hk0)
    obtain ⟨N, rfl⟩ : ∃ m : Nat, N = (m : Int) := ⟨N.toNat, by have := hg.lo; omega⟩
    have hN8 : N ≤ 8192 := by have := hg.hi; omega
    have hcc := hC.good (by rw [Hk.out]; exact hk0)
    rw [Int.toNat_natCast] at hcc
    have hof : ofL (N : Int) ps L = idxTo N (L.map ni) L.length := by unfold ofL; rw [if_pos (by rw [Hk.out]; exact hk0), Int.toNat_natCast]
    have hml : (L.map ni).length = m := by rw [List.length_map]; exact hm
    have hix := indexes_any N (.slice a1 m c1) (L.map ni) w2 hR hN8 (by rw [hml, ← hm]; have := hcc.count; omega) (fun i hi => hcc.fits i (by rw [List.length_map] at hi; exact hi)) (fun i hi => by
      rw [List.length_map] at hi
      rw [map_ni_at, ni_len]
      have := nodupLe (hcc.nd hi) (hcc.lt i hi)
      omega)
    have Hix := Lib.hid hix
    have Hof := Lib.hid hof
    have HC := Lib.hid hC
    clear hb2 hR hC hm hcc hof hml hix hg
    go_wp2_with fail
    refine Hix.out.mono ?_
    rintro e w3 ⟨rfl, hrow, hb3⟩
    have hend : OfEnd w (N : Int) ps k (.returned (.tuple #[.slice (some ⟨w2.heap.size, 0, none⟩) N N, .int .i64 k])) w3 := by
      refine ⟨L, N, _, N, by rw [Hof.out, idxTo_len], rfl, ?_, HB2.out.trans (hb3.mono (by have := HB2.out.size; omega)), HC.out⟩
      rw [Hof.out]
      have := hrow.ints
      rw [List.length_map] at this
      exact this
    have Hend := Lib.hid hend
    clear hrow hb3 hend
    subst hk0
    go_wp2
    go_ret2
    exact Hend.out
  · have e0 : (k != 0) = true := by rw [bne_iff_ne]; exact hk0
    have hend : OfEnd w N ps k (.returned (.tuple #[.slice none 0 0, .int .i64 k])) w2 := by
      have hof : ofL N ps L = [] := by unfold ofL; rw [if_neg (by rw [Hk.out]; exact hk0)]
      refine ⟨L, 0, none, 0, by rw [hof]; rfl, rfl, ?_, HB2.out, hC⟩
      rw [hof]
      exact fun h => absurd h (by simp)
    have Hend := Lib.hid hend
    clear hb2 hR hC hend hm
    go_wp2
    go_ret2
    exact Hend.out
end Go.Proofs.Ytopbbihbpalnlaa
