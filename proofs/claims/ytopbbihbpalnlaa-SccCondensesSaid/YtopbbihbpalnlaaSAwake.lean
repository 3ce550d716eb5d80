/-
  awake: the closed example with which every statement ends.
-/
import Derived.Test.YtopbbihbpalnlaaSComps
import Derived.Test.YtopbbihbpalnlaaSRecG
import Derived.Test.YtopbbihbpalnlaaSAcyL
namespace Go.Proofs.Ytopbbihbpalnlaa
open Go.RowKit
set_option linter.unusedVariables false

def exP : List (Int × Int) := [(0, 1), (1, 0), (1, 2)]
theorem ex_gchk : gchk ((3 : Nat) : Int) exP = 0 := by decide
theorem ex_su0 : suN exP 0 = [1] := by decide
theorem ex_su1 : suN exP 1 = [0, 2] := by decide
theorem ex_su2 : suN exP 2 = [] := by decide
theorem ex_comp : (compL 3 (suN exP) srt).length = 2 := by decide +kernel
theorem ex_acy : acyB ((3 : Nat) : Int) exP = false := by
  unfold acyB
  rw [if_pos ex_gchk, Int.toNat_natCast, ex_comp]
  rfl
theorem ex_rec : decide ((1 : Int) ∈ reachL ((3 : Nat) : Int) exP (succL exP 1)) = true := by
  unfold reachL
  rw [decide_eq_true_eq, List.mem_mergeSort]
  decide
theorem ex_rl : (reachL ((3 : Nat) : Int) exP (succL exP 1)).length ≤ 100000 := by
  unfold reachL
  rw [List.length_mergeSort]
  decide
theorem ex_sl : (succL exP 1).length ≤ 100000 := by decide
theorem ex_2 {y : Nat} (h : Rc (suN exP) 2 y) : y = 2 := by
  induction h with
  | refl => rfl
  | tail _ e ih => subst ih; rw [ex_su2] at e; cases e
theorem ex_cc {L : List (List Nat)} (h : CC 3 (suN exP) L) : L.length = 2 ∧ (L.getD 1 []).length = 2 := by
  obtain ⟨i, hi, h0⟩ := h.all 0 (by omega)
  obtain ⟨j, hj, h2⟩ := h.all 2 (by omega)
  have r01 : Rc (suN exP) 0 1 := .edge (by rw [ex_su0]; simp)
  have r10 : Rc (suN exP) 1 0 := .edge (by rw [ex_su1]; simp)
  have h1 : 1 ∈ L.getD i [] := (h.scc i hi 0 h0 1).mpr ⟨r01, r10⟩
  have hij : i ≠ j := fun e => by
    subst e
    have := ((h.scc i hi 0 h0 2).mp h2).2
    have := ex_2 this
    omega
  have hmem : ∀ k, k < L.length → k = i ∨ k = j := fun k hk => by
    cases hc : L.getD k [] with
    | nil => exact absurd hc (h.ne k hk)
    | cons x r =>
      have hx : x ∈ L.getD k [] := by rw [hc]; simp
      have := h.lt k hk x hx
      rcases (show x = 0 ∨ x = 1 ∨ x = 2 by omega) with rfl | rfl | rfl
      · exact .inl (h.dis k i hk hi _ hx h0)
      · exact .inl (h.dis k i hk hi _ hx h1)
      · exact .inr (h.dis k j hk hj _ hx h2)
  obtain ⟨j', hj', h2'⟩ := h.top i hi 1 h1 2 (by rw [ex_su1]; simp)
  have hjj : j' = j := h.dis j' j (by omega) hj _ h2' h2
  have hlen : L.length = 2 := by
    have a0 := hmem 0 (by omega)
    have a1 : 2 < L.length → False := fun h3 => by
      have b1 := hmem 1 (by omega)
      have b2 := hmem 2 h3
      omega
    have a2 := Nat.le_of_not_lt a1
    omega
  have hi1 : i = 1 := by omega
  subst hi1
  refine ⟨hlen, ?_⟩
  have hasc := h.asc 1 hi
  have hle : (L.getD 1 []).length ≤ 2 := nodupLe (N := 2) (hasc.imp fun h => by omega) fun x hx => by
    have h3 := h.lt 1 hi x hx
    have h4 : x ≠ 2 := fun e => hij (h.dis 1 j hi hj _ (e ▸ hx) h2)
    omega
  have hge : 2 ≤ (L.getD 1 []).length := by
    match hc : L.getD 1 [], h0, h1 with
    | [], h0, _ => cases h0
    | [x], h0, h1 => simp at h0 h1; omega
    | _ :: _ :: _, _, _ => simp
  omega

theorem comp_ex (a : Option Addr) (c : Nat) (w : World) (hE : Pairs w a exP) :
    Calls Try.prog 11 #[.agg #[.int .i64 3, .slice a 3 c]] w fun e w' => Below w.heap.size w w' ∧ ∃ G off a2 c1 c2, e = .returned (.tuple #[.slice (some ⟨G, off, none⟩) 2 c1, .int .i64 0]) ∧ w'.cell? ⟨G, off + 1, none⟩ = some (.slice a2 2 c2) := by
  refine (components_any 3 a 3 c exP rfl (by unfold maxLen; decide) w hE).mono ?_
  rintro e w' ⟨u, L, he, hR, hb, hC⟩
  have hcc := hC.good ex_gchk
  obtain ⟨h1, h2⟩ := ex_cc hcc
  obtain ⟨a1, c1, rfl, hz⟩ := hR
  obtain ⟨G, off, rfl, hx⟩ := hz (by rw [List.length_map]; omega)
  obtain ⟨ai, ci, q1, _⟩ := hx 1 (by rw [List.length_map]; omega)
  rw [map_ni_at, ni_len, h2] at q1
  rw [List.length_map, h1] at he
  exact ⟨hb, G, off, ai, c1, ci, by rw [he]; rfl, q1⟩
set_option maxHeartbeats 1600000 in
theorem awake_any (w : World) : Calls Try.prog 10 #[] w fun e w' => e = .returned (.bool true) ∧ Below w.heap.size w w' := by
  go_enter Try.func10, Try.ntmps10
  go_wp2_with fail
  obtain ⟨w1, hw1⟩ : ∃ w1, (w.alloc (Obj.cells #[Value.int .i64 0, Value.int .i64 1, Value.int .i64 1, Value.int .i64 0, Value.int .i64 1, Value.int .i64 2] 44)).alloc (Obj.cells #[Value.int .i64 3, Value.slice (some ⟨w.heap.size, 0, none⟩) 3 3] 24) = w1 := ⟨_, rfl⟩
  have hs1 : w1.heap.size = w.heap.size + 2 := by rw [← hw1]; simp
  have hB1 : Below w.heap.size w w1 := by rw [← hw1]; exact ((Below.refl w.heap.size w).alloc (Nat.le_refl _) _).alloc (by simp) _
  have hE1 : Pairs w1 (some ⟨w.heap.size, 0, none⟩) exP := fun _ => by
    refine ⟨_, _, rfl, fun i hi => ?_⟩
    rw [← hw1]
    have h3 : i < 3 := hi
    rcases (show i = 0 ∨ i = 1 ∨ i = 2 by omega) with rfl | rfl | rfl
    · exact ⟨by simp [exP, go_sem], by simp [exP, go_sem]⟩
    · exact ⟨by simp [exP, go_sem], by simp [exP, go_sem]⟩
    · exact ⟨by simp [exP, go_sem], by simp [exP, go_sem]⟩
  have g0 : w1.cell? ⟨w.heap.size + 1, 0, none⟩ = some (.int .i64 3) := by rw [← hw1]; simp [go_sem]
  have g1 : w1.cell? ⟨w.heap.size + 1, 1, none⟩ = some (.slice (some ⟨w.heap.size, 0, none⟩) 3 3) := by rw [← hw1]; simp [go_sem]
  have HE1 := Lib.hid hE1
  have HB1 := Lib.hid hB1
  rw [hw1]
  clear hE1 hB1 hw1
  refine (comp_ex _ _ w1 HE1.out).mono ?_
  rintro e w2 ⟨hb2, G, off, a2, c1, c2, rfl, hc⟩
  have k0 := (hb2.cell (p := ⟨w.heap.size + 1, 0, none⟩) (by show w.heap.size + 1 < _; omega)).trans g0
  have k1 := (hb2.cell (p := ⟨w.heap.size + 1, 1, none⟩) (by show w.heap.size + 1 < _; omega)).trans g1
  have hE2 := HE1.out.below hb2 (Nat.le_refl _)
  have hs2 := hb2.size
  have HE2 := Lib.hid hE2
  have HB2 := Lib.hid (HB1.out.trans (hb2.mono (by omega)))
  clear hE2 hb2
  go_wp2_with fail
  have hEd : Edg w2 (some ⟨w.heap.size, 0, none⟩) 3 exP := ⟨HE2.out, by decide, by unfold maxLen; decide, fun h => by cases h⟩
  refine (rec_good 3 _ 3 3 exP 1 w2 rfl hEd ex_gchk ex_sl ex_rl).mono ?_
  rintro e w3 ⟨rfl, hb3⟩
  rw [ex_rec]
  have m0 := (hb3.cell (p := ⟨w.heap.size + 1, 0, none⟩) (by show w.heap.size + 1 < _; omega)).trans k0
  have m1 := (hb3.cell (p := ⟨w.heap.size + 1, 1, none⟩) (by show w.heap.size + 1 < _; omega)).trans k1
  have hs3 := hb3.size
  have HE3 := Lib.hid (HE2.out.below hb3 (Nat.le_refl _))
  have HB3 := Lib.hid (HB2.out.trans (hb3.mono (by omega)))
  clear hb3 hEd
  go_wp2_with fail
  refine (acyclic_any 3 _ 3 3 exP rfl (by unfold maxLen; decide) w3 HE3.out).mono ?_
  rintro e w4 ⟨rfl, hb4⟩
  rw [show acyB 3 exP = false from ex_acy]
  have HB4 := Lib.hid (HB3.out.trans (hb4.mono (by omega)))
  clear hb4
  go_wp2
  go_ret
  exact ⟨rfl, HB4.out⟩
end Go.Proofs.Ytopbbihbpalnlaa
