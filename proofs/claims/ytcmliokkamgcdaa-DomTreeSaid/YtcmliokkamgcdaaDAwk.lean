/-
  awake: the closed example with which every statement ends.
-/
import Derived.Test.YtcmliokkamgcdaaDLoops
import Derived.Test.YtcmliokkamgcdaaDIds
import Derived.Test.YtcmliokkamgcdaaDDms
namespace Go.Proofs.Ytcmliokkamgcdaa
open Go.RowKit Go.Shelf
set_option linter.unusedVariables false

def exD : List (Int × Int) := [(0, 1), (1, 2), (2, 1), (2, 3)]
theorem exD_gchk : gchk ((4 : Nat) : Int) exD = 0 := by decide
theorem exD_s0 : suD exD 0 = [1] := by decide
theorem exD_s1 : suD exD 1 = [2] := by decide
theorem exD_s2 : suD exD 2 = [1, 3] := by decide
theorem exD_p0 : suD (prev exD) 0 = [] := by decide
theorem exD_p1 : suD (prev exD) 1 = [0, 2] := by decide
theorem exD_p2 : suD (prev exD) 2 = [1] := by decide
theorem exD_p3 : suD (prev exD) 3 = [2] := by decide
def Fx (u v : Nat) : Prop := v ∈ suD exD u
theorem fx01 : Fx 0 1 := by show 1 ∈ suD exD 0; rw [exD_s0]; simp
theorem fx12 : Fx 1 2 := by show 2 ∈ suD exD 1; rw [exD_s1]; simp
theorem fx23 : Fx 2 3 := by show 3 ∈ suD exD 2; rw [exD_s2]; simp
theorem ex_r1 : rch exD 0 1 := Rg.tail .refl fx01 trivial
theorem ex_r2 : rch exD 0 2 := Rg.tail ex_r1 fx12 trivial
theorem ex_r3 : rch exD 0 3 := Rg.tail ex_r2 fx23 trivial
theorem ex_a1 {b : Nat} (h : Rg (fun u v => v ∈ suD exD u) (· ≠ 1) 0 b) : b = 0 := by
  induction h with
  | refl => rfl
  | tail _ e q ih => subst ih; rw [exD_s0] at e; exact absurd (List.mem_singleton.1 e) q
theorem ex_a2 {b : Nat} (h : Rg (fun u v => v ∈ suD exD u) (· ≠ 2) 0 b) : b = 0 ∨ b = 1 := by
  induction h with
  | refl => exact .inl rfl
  | tail _ e q ih =>
    rcases ih with rfl | rfl
    · rw [exD_s0] at e; exact .inr (List.mem_singleton.1 e)
    · rw [exD_s1] at e; exact absurd (List.mem_singleton.1 e) q
theorem ex_d12 : domN exD 0 1 2 := ⟨ex_r2, fun h => by have := ex_a1 h; omega⟩
theorem ex_d13 : domN exD 0 1 3 := ⟨ex_r3, fun h => by have := ex_a1 h; omega⟩
theorem ex_d23 : domN exD 0 2 3 := ⟨ex_r3, fun h => by have := ex_a2 h; omega⟩
theorem ex_n10 : ¬ domN exD 0 1 0 := fun h => by have := h.2 .refl; omega
theorem ex_n20 : ¬ domN exD 0 2 0 := fun h => by have := h.2 .refl; omega
theorem ex_n21 : ¬ domN exD 0 2 1 := fun h => by have := h.2 (Rg.tail .refl fx01 (by decide)); omega
theorem ex_n32 : ¬ domN exD 0 3 2 := fun h => by have := h.2 (Rg.tail (Rg.tail .refl fx01 (by decide)) fx12 (by decide)); omega
theorem ex_ids {id : List Int} (h : IdS 4 0 exD id) : id.length = 4 ∧ id.getD 3 0 = 2 ∧ id.getD 0 0 = -1 := by
  refine ⟨h.ln, ?_, h.rt⟩
  obtain ⟨p, hp, e, _, n, all⟩ := h.at_ 3 (by omega) ex_r3 (by omega)
  have h2 := all 2 ex_d23 (by omega)
  rcases (show p = 0 ∨ p = 1 ∨ p = 2 ∨ p = 3 by omega) with rfl | rfl | rfl | rfl
  · exact absurd h2 ex_n20
  · exact absurd h2 ex_n21
  · exact e
  · exact absurd rfl n
theorem ex_loops {id pl z : List Int} (h : TD 4 0 exD id pl z) : ∃ l, loopsTo 4 exD pl z 4 = [(1, l)] := by
  have d : ∀ a b, a < 4 → b < 4 → (domB pl z a b = true ↔ domN exD 0 a b) := fun a b ha hb => h.dom ha hb
  have d12 : domB pl z 1 2 = true := (d 1 2 (by omega) (by omega)).2 ex_d12
  have d10 : domB pl z 1 0 = false := Bool.eq_false_iff.2 fun e => ex_n10 ((d 1 0 (by omega) (by omega)).1 e)
  have d21 : domB pl z 2 1 = false := Bool.eq_false_iff.2 fun e => ex_n21 ((d 2 1 (by omega) (by omega)).1 e)
  have d32 : domB pl z 3 2 = false := Bool.eq_false_iff.2 fun e => ex_n32 ((d 3 2 (by omega) (by omega)).1 e)
  have s0 : startsL exD pl z 0 = [] := by unfold startsL; rw [exD_p0]; rfl
  have s1 : startsL exD pl z 1 = [2] := by unfold startsL; rw [exD_p1]; simp [d10, d12]
  have s2 : startsL exD pl z 2 = [] := by unfold startsL; rw [exD_p2]; simp [d21]
  have s3 : startsL exD pl z 3 = [] := by unfold startsL; rw [exD_p3]; simp [d32]
  refine ⟨(loopS 4 (suD (prev exD)) z 1 (startsL exD pl z 1)).2, ?_⟩
  simp only [loopsTo, s0, s2, s3, if_true, List.append_nil, List.nil_append]
  rw [if_neg (by rw [s1]; simp)]
theorem lps_one {w : World} {base : Nat} {v : Value} {vs : List (Nat × Value)} {h : Nat} {l : List Nat} (H : Lps w base v vs [(h, l)]) : ∃ g c, v = .slice (some ⟨g, 0, none⟩) 1 c ∧ w.cell? ⟨g, 0, none⟩ = some (.int .i64 (h : Int)) := by
  have hl : vs.length = 1 := H.len
  have h0 := H.head 0 (by simp)
  have ho := H.own
  unfold OwnL at ho
  rw [hl] at ho
  rcases ho.2 with ⟨_, e⟩ | ⟨g, c, cur, e, _⟩
  · omega
  · refine ⟨g, c, e, ?_⟩
    rw [e] at ho
    rw [World.ownsRow.cellAt ho 0 (by omega)]
    have := (cellsL_get vs 0 (by omega)).1
    rw [show 0 * 2 = 0 from rfl] at this
    rw [this, h0]; rfl

set_option maxHeartbeats 4000000 in
theorem awake_any (w : World) : Calls Try.prog 10 #[] w fun e w' => e = .returned (.bool true) ∧ Below w.heap.size w w' := by
  go_enter Try.func10, Try.ntmps10
  go_wp2_with fail
  obtain ⟨w1, hw1⟩ : ∃ w1, (w.alloc (Obj.cells #[Value.int .i64 0, Value.int .i64 1, Value.int .i64 1, Value.int .i64 2, Value.int .i64 2, Value.int .i64 1, Value.int .i64 2, Value.int .i64 3] 52)).alloc (Obj.cells #[Value.int .i64 4, Value.slice (some ⟨w.heap.size, 0, none⟩) 4 4] 24) = w1 := ⟨_, rfl⟩
  have hs1 : w1.heap.size = w.heap.size + 2 := by rw [← hw1]; simp
  have hB1 : Below w.heap.size w w1 := by rw [← hw1]; exact ((Below.refl w.heap.size w).alloc (Nat.le_refl _) _).alloc (by simp) _
  have hE1 : Pairs w1 (some ⟨w.heap.size, 0, none⟩) exD := fun _ => by
    refine ⟨_, _, rfl, fun i hi => ?_⟩
    rw [← hw1]
    have h3 : i < 4 := hi
    rcases (show i = 0 ∨ i = 1 ∨ i = 2 ∨ i = 3 by omega) with rfl | rfl | rfl | rfl
    · exact ⟨by simp [exD, go_sem], by simp [exD, go_sem]⟩
    · exact ⟨by simp [exD, go_sem], by simp [exD, go_sem]⟩
    · exact ⟨by simp [exD, go_sem], by simp [exD, go_sem]⟩
    · exact ⟨by simp [exD, go_sem], by simp [exD, go_sem]⟩
  have g0 : w1.cell? ⟨w.heap.size + 1, 0, none⟩ = some (.int .i64 4) := by rw [← hw1]; simp [go_sem]
  have g1 : w1.cell? ⟨w.heap.size + 1, 1, none⟩ = some (.slice (some ⟨w.heap.size, 0, none⟩) 4 4) := by rw [← hw1]; simp [go_sem]
  have HE1 := Lib.hid hE1
  have HB1 := Lib.hid hB1
  rw [hw1]
  clear hE1 hB1 hw1
  refine (idom_good 4 0 _ 4 4 exD rfl w1 HE1.out exD_gchk (by omega)).mono ?_
  rintro e w2 ⟨gi, id, rfl, hri, hids, hb2⟩
  have k0 := (hb2.cell (p := ⟨w.heap.size + 1, 0, none⟩) (by show w.heap.size + 1 < _; omega)).trans g0
  have k1 := (hb2.cell (p := ⟨w.heap.size + 1, 1, none⟩) (by show w.heap.size + 1 < _; omega)).trans g1
  have hs2 := hb2.size
  obtain ⟨hln, hd3, hd0⟩ := ex_ids hids
  have i3 := hri.cell (i := 3) (by omega)
  have i0 := hri.cell (i := 0) (by omega)
  rw [hd3] at i3
  rw [hd0] at i0
  have hgi := hri.lt.2
  have HE2 := Lib.hid (HE1.out.below hb2 (Nat.le_refl _))
  have HB2 := Lib.hid (HB1.out.trans (hb2.mono (by omega)))
  clear hb2 hri hids hln hd3 hd0 g0 g1
  go_wp2_with fail
  refine (loops_good 4 0 _ 4 4 exD rfl w2 HE2.out exD_gchk (by omega)).mono ?_
  rintro e w3 ⟨v, vs, id', pl, z, htd, rfl, hlp, hb3⟩
  obtain ⟨l, hloop⟩ := ex_loops htd
  rw [hloop] at hlp
  obtain ⟨g, cg, rfl, cg0⟩ := lps_one hlp
  have m0 := (hb3.cell (p := ⟨w.heap.size + 1, 0, none⟩) (by show w.heap.size + 1 < _; omega)).trans k0
  have m1 := (hb3.cell (p := ⟨w.heap.size + 1, 1, none⟩) (by show w.heap.size + 1 < _; omega)).trans k1
  have j3 := (hb3.cell (p := ⟨gi, 3, none⟩) hgi).trans i3
  have j0 := (hb3.cell (p := ⟨gi, 0, none⟩) hgi).trans i0
  have hs3 := hb3.size
  have HE3 := Lib.hid (HE2.out.below hb3 (Nat.le_refl _))
  have HB3 := Lib.hid (HB2.out.trans (hb3.mono (by omega)))
  clear hb3 htd hloop hlp k0 k1 i3 i0
  go_wp2_with fail
  refine (dominates_good 4 0 1 3 _ 4 4 exD rfl w3 HE3.out exD_gchk (by omega) (by omega) (by omega)).mono ?_
  rintro e w4 ⟨b, rfl, hb, hb4⟩
  obtain rfl : b = true := hb.2 ex_d13
  have HB4 := Lib.hid (HB3.out.trans (hb4.mono (by omega)))
  clear hb4 hb
  go_wp2
  go_ret
  exact ⟨rfl, HB4.out⟩
end Go.Proofs.Ytcmliokkamgcdaa
