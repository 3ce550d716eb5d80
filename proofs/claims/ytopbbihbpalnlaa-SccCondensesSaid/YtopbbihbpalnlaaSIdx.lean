/-
  Which list holds a node.
-/
import Derived.Test.YtopbbihbpalnlaaSRows
import Derived.Test.YtopbbihbpalnlaaTarN
import Derived.LoopTactic
import Derived.RegionTactic
namespace Go.Proofs.Ytopbbihbpalnlaa
open Go.RowKit
set_option linter.unusedVariables false

/-- A slice of slices of ints reads as L. -/
def RL (w : World) (u : Value) (L : List (List Int)) : Prop :=
  ∃ a c, u = .slice a L.length c ∧ (0 < L.length → ∃ G off, a = some ⟨G, off, none⟩ ∧ ∀ i, i < L.length → ∃ ai ci, w.cell? ⟨G, off + i, none⟩ = some (.slice ai (L.getD i []).length ci) ∧ Ints w ai (L.getD i []))
theorem RL.below {w w' : World} {u : Value} {L : List (List Int)} {B : Nat} (h : RL w u L) (hb : Below B w w') (hB : w.heap.size ≤ B) : RL w' u L := by
  obtain ⟨a, c, e, hz⟩ := h
  refine ⟨a, c, e, fun h0 => ?_⟩
  obtain ⟨G, off, e2, hx⟩ := hz h0
  refine ⟨G, off, e2, fun i hi => ?_⟩
  obtain ⟨ai, ci, h1, h2⟩ := hx i hi
  have hlt := World.block_lt_of_cell? w _ h1
  exact ⟨ai, ci, (hb.cell (p := ⟨G, off + i, none⟩) (by simp at hlt; show G < B; omega)).trans h1, h2.below hb hB⟩
theorem Rws.rl {w : World} {base : Nat} {u : Value} {vs : List Value} {L : List (List Int)} (h : Rws w base u vs L) : RL w u L := by
  have hl := h.len
  rcases h.own.2 with ⟨rfl, h0⟩ | ⟨g, cap, cur, e, _⟩
  · exact ⟨none, 0, by rw [← hl, h0], fun h1 => by omega⟩
  · refine ⟨some ⟨g, 0, none⟩, cap, by rw [e, hl], fun h0 => ⟨g, 0, rfl, fun i hi => ?_⟩⟩
    subst e
    obtain ⟨a, c, h1, _, h2, _⟩ := h.at_ hi
    exact ⟨a, c, by rw [Nat.zero_add]; exact h1, h2⟩
def rowTo (acc : List Int) (c : List Int) (i : Nat) (j : Nat) : List Int := (c.take j).foldl (fun a v => a.set v.toNat (i : Int)) acc
def idxTo (N : Nat) (L : List (List Int)) (k : Nat) : List Int := (List.range k).foldl (fun a i => rowTo a (L.getD i []) i (L.getD i []).length) (List.replicate N 0)
theorem idxTo_succ (N : Nat) (L : List (List Int)) (k : Nat) : idxTo N L (k + 1) = rowTo (idxTo N L k) (L.getD k []) k (L.getD k []).length := by
  unfold idxTo; rw [List.range_succ, List.foldl_append]; rfl
theorem rowTo_succ (acc c : List Int) (i j : Nat) (h : j < c.length) : rowTo acc c i (j + 1) = (rowTo acc c i j).set (c.getD j 0).toNat (i : Int) := by
  unfold rowTo
  rw [List.take_add_one, List.foldl_append, List.getElem?_eq_getElem h]
  simp [List.getD, h]
theorem rowTo_len (acc c : List Int) (i j : Nat) : (rowTo acc c i j).length = acc.length := by
  unfold rowTo
  generalize c.take j = l
  induction l generalizing acc with
  | nil => rfl
  | cons x r ih => rw [List.foldl_cons, ih]; simp
theorem idxTo_len (N : Nat) (L : List (List Int)) : ∀ k, (idxTo N L k).length = N
  | 0 => by simp [idxTo]
  | k + 1 => by rw [idxTo_succ, rowTo_len, idxTo_len N L k]
theorem rowTo_at (c : List Int) (i : Nat) (v : Nat) : ∀ (j : Nat) (acc : List Int), (∀ x ∈ c, 0 ≤ x ∧ x < acc.length) → (rowTo acc c i j).getD v 0 = if (v : Int) ∈ c.take j then (i : Int) else acc.getD v 0 := by
  intro j acc hc
  unfold rowTo
  have hc2 : ∀ x ∈ c.take j, 0 ≤ x ∧ x < acc.length := fun x hx => hc x (List.mem_of_mem_take hx)
  generalize c.take j = l at hc2
  induction l generalizing acc with
  | nil => simp
  | cons x r ih =>
    rw [List.foldl_cons, ih _ (fun y hy => by rw [List.length_set]; exact hc y hy) (fun y hy => by rw [List.length_set]; exact hc2 y (by simp [hy]))]
    have hx := hc2 x (by simp)
    by_cases e : (v : Int) ∈ r
    · rw [if_pos e, if_pos (by simp [e])]
    · rw [if_neg e]
      by_cases e2 : (v : Int) = x
      · rw [if_pos (by simp [e2])]
        have : x.toNat = v := by omega
        rw [this]
        simp [List.getD_eq_getElem?_getD, show v < acc.length by omega]
      · rw [if_neg (by simp [e, e2])]
        have : x.toNat ≠ v := by omega
        simp [List.getD_eq_getElem?_getD, this]
/-- Each node's list is named. -/
theorem idx_at (N : Nat) (L : List (List Int)) (hN : ∀ c ∈ L, ∀ x ∈ c, 0 ≤ x ∧ x < (N : Int)) (hd : ∀ i j, i < L.length → j < L.length → ∀ x, x ∈ L.getD i [] → x ∈ L.getD j [] → i = j) : ∀ (k : Nat), k ≤ L.length → ∀ i, i < k → ∀ v : Nat, (v : Int) ∈ L.getD i [] → (idxTo N L k).getD v 0 = (i : Int) := by
  intro k
  induction k with
  | zero => intro _ i hi; omega
  | succ k ih =>
    intro hk i hi v hv
    rw [idxTo_succ, rowTo_at _ _ _ _ _ (fun x hx => by
      rw [idxTo_len]
      have hm : L.getD k [] ∈ L := by rw [List.getD_eq_getElem?_getD, List.getElem?_eq_getElem (by omega)]; exact List.getElem_mem _
      exact hN _ hm x hx), List.take_length]
    by_cases e : (v : Int) ∈ L.getD k []
    · rw [if_pos e, hd i k (by omega) (by omega) _ hv e]
    · rw [if_neg e]
      have : i ≠ k := fun e2 => e (e2 ▸ hv)
      exact ih (by omega) i (by omega) v hv

set_option maxHeartbeats 2000000 in
set_option maxRecDepth 100000 in
theorem indexes_any (N : Nat) (u : Value) (L : List (List Int)) (w : World) (h : RL w u L) (hN : N ≤ 8192) (hL : L.length ≤ 8192) (hc : ∀ i, i < L.length → ∀ x ∈ L.getD i [], 0 ≤ x ∧ x < (N : Int)) (hcl : ∀ i, i < L.length → (L.getD i []).length ≤ 100000) :
    Calls Try.prog 33 #[u, .int .i64 (N : Int)] w fun e w' => e = .returned (.slice (some ⟨w.heap.size, 0, none⟩) N N) ∧ Row w' w.heap.size w.heap.size N (idxTo N L L.length) ∧ Below w.heap.size w w' := by
  obtain ⟨i0, hi, hz0, hz1, hz2⟩ := info_parts int_info
  have HL := Lib.hid h
  obtain ⟨a, c, rfl, _⟩ := h
  obtain ⟨n, hn⟩ : ∃ n, L.length = n := ⟨_, rfl⟩
  rw [hn] at hL hc hcl ⊢
  have Hn := Lib.hid hn
  have Hc := Lib.hid hc
  have Hcl := Lib.hid hcl
  rw [hn] at HL
  clear hn hc hcl
  go_enter Try.func33, Try.ntmps33
  go_wp2_with (at_make; refine wpList_make_full _ rfl _ _ 31 rfl w.heap.size 3 i0 (.int .i64 0) 1 Try.underlying31 hi hz0 hz1 _ _ _ _ N rfl rfl rfl rfl ?c1 ?c2 ?c3 ?_)
  case c1 => rw [hz2]; omega
  case c2 => unfold maxLen; omega
  case c3 => exact Nat.le_refl _
  intro w3 hown hg3
  have hrep : (madeCells #[Value.int .i64 0] N).toList = (idxTo N L 0).map (Value.int .i64) := by rw [toList_madeCells_one]; simp [idxTo]
  have hR0 : Row w3 w.heap.size w.heap.size N (idxTo N L 0) := by
    unfold Row
    rw [← hrep, idxTo_len]
    exact hown
  have hb3 : Below w.heap.size w w3 := (Below.refl _ _).grown hg3 (Nat.le_refl _) (fun k hk => by cases hk)
  have HR := Lib.hid hR0
  have HB3 := Lib.hid hb3
  clear hown hrep hR0 hb3 hg3
  go_wp2
  go_loopw [14] (fun x W => ∃ k : Nat, x = .int .i64 k ∧ k ≤ n ∧ Hid (Row W w.heap.size w.heap.size N (idxTo N L k)) ∧ Hid (Below w.heap.size w W)) (fun x _ => n - (intOf x).toNat)
  case atStart => exact ⟨0, rfl, Nat.zero_le _, HR, HB3⟩
  case round =>
    obtain ⟨k, rfl, hk, hrow, hbw⟩ := hrel
    by_cases hlt : k < n
    · have hr := HL.out.below hbw.out (Nat.le_refl _)
      obtain ⟨a2, c2, e2, hz⟩ := hr
      injection e2 with e3 _ _
      obtain ⟨G, off, e4, hx⟩ := hz (by rw [Hn.out]; omega)
      rw [e4] at e3
      subst e3
      obtain ⟨ai, ci, hcell, hints⟩ := hx k (by rw [Hn.out]; exact hlt)
      have hcl := Hcl.out k hlt
      have hcb := Hc.out k hlt
      obtain ⟨cc, hcc⟩ : ∃ cc, L.getD k [] = cc := ⟨_, rfl⟩
      have hsu := idxTo_succ N L k
      rw [hcc] at hcell hints hcl hcb hsu
      obtain ⟨m, hm⟩ : ∃ m, cc.length = m := ⟨_, rfl⟩
      rw [hm] at hcell hcl hsu
      have Hm := Lib.hid hm
      have Hsu := Lib.hid hsu
      have Hints := Lib.hid (show Ints w ai cc from fun h0 => by
        obtain ⟨a9, c9, e9, h9⟩ := HL.out
        injection e9 with e10 _ _
        obtain ⟨G9, off9, e11, h11⟩ := h9 (by rw [Hn.out]; omega)
        rw [e11] at e10
        injection e10 with e10
        injection e10 with e12 e13 _
        obtain ⟨ai9, ci9, h12, h13⟩ := h11 k (by rw [Hn.out]; exact hlt)
        rw [← e12, ← e13] at h12
        have hlt9 := World.block_lt_of_cell? w _ h12
        have h14 := (hbw.out.cell (p := ⟨G, off + k, none⟩) hlt9).trans h12
        rw [hcell] at h14
        rw [hcc] at h13 h14
        injection h14 with h15
        injection h15 with h16 _ _
        rw [h16]; exact h13 h0)
      have Hcb := Lib.hid hcb
      have hstart : Hid (Row wr w.heap.size w.heap.size N (rowTo (idxTo N L k) cc k 0)) := hrow.out
      clear hz hx e4 hm hsu hints hcb hcc
      go_wp2
      go_loopw [21] (fun x W => ∃ j : Nat, x = .int .i64 j ∧ j ≤ m ∧ Hid (Row W w.heap.size w.heap.size N (rowTo (idxTo N L k) cc k j)) ∧ Hid (Below w.heap.size w W)) (fun x _ => m - (intOf x).toNat)
      case atStart => exact ⟨0, rfl, Nat.zero_le _, hstart, hbw⟩
      case round =>
        obtain ⟨j, rfl, hj, hrow2, hbw2⟩ := hrel
        by_cases hjm : j < m
        · obtain ⟨b, o2, e5, hy⟩ := Hints.out (by rw [Hm.out]; omega)
          subst e5
          have hyj := hy j (by rw [Hm.out]; exact hjm)
          obtain ⟨x, hxe⟩ : ∃ x, cc.getD j 0 = x := ⟨_, rfl⟩
          rw [hxe] at hyj
          have hlt2 := World.block_lt_of_cell? w _ hyj
          have hyr := (hbw2.out.cell (p := ⟨b, o2 + j, none⟩) hlt2).trans hyj
          have hxm : x ∈ cc := by rw [← hxe, List.getD_eq_getElem?_getD, List.getElem?_eq_getElem (by rw [Hm.out]; exact hjm)]; exact List.getElem_mem _
          have hxb := Hcb.out x hxm
          obtain ⟨x, rfl⟩ : ∃ y : Nat, x = (y : Int) := ⟨x.toNat, by omega⟩
          have hxN : x < N := by omega
          have fr := hrow2.out.free x
          have hnew := hrow2.out.set x (k : Int)
          have hcx := hrow2.out.cell (i := x) (by rw [rowTo_len, idxTo_len]; exact hxN)
          have hst2 : Hid (rowTo (idxTo N L k) cc k (j + 1) = (rowTo (idxTo N L k) cc k j).set x (k : Int)) := by show _ = _; rw [rowTo_succ _ _ _ _ (by rw [Hm.out]; exact hjm), hxe, Int.toNat_natCast]
          have Hnew := Lib.hid hnew
          have hb9 : Hid (Below w.heap.size w (wr.setCell ⟨w.heap.size, x, none⟩ (.int .i64 (k : Int)))) := hbw2.out.setCell (p := ⟨w.heap.size, x, none⟩) (Nat.le_refl _) _
          obtain ⟨z, hz⟩ : ∃ z, (rowTo (idxTo N L k) cc k j).getD x 0 = z := ⟨_, rfl⟩
          rw [hz] at hcx
          clear hnew hy hyj hxm hxe hxb hz
          go_wp2
          go_roundw
          case rel => exact ⟨j + 1, by go_num, hjm, by rw [hst2.out]; exact Hnew, hb9⟩
          case measure => simp [intOf]; omega
        · obtain rfl : j = m := by omega
          go_wp2
          go_roundw
          case rel => exact ⟨k + 1, by go_num, hlt, by rw [Hsu.out]; exact hrow2, hbw2⟩
          case measure => simp [intOf]; omega
    · obtain rfl : k = n := by omega
      go_wp2
      go_ret
      exact ⟨rfl, hrow.out, hbw.out⟩
end Go.Proofs.Ytopbbihbpalnlaa
