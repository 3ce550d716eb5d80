/-
  Classes: the classes of a valid partition, or the error of Check.
-/
import Derived.Test.YtmpofbiphklilaaPCollect
namespace Go.Proofs.Ytmpofbiphklilaa
open Go.RowKit
set_option linter.unusedVariables false

set_option maxHeartbeats 400000 in
theorem classes_bad (a : Option Addr) (c : Nat) (p : List Int) (w : World) (hn : p.length ≤ maxLen) (hz : Ints w a p) (hc : chk p ≠ 0) :
    Calls Try.prog 24 #[.slice a p.length c] w fun e w' => e = .returned (.tuple #[.slice none 0 0, .int .i64 (chk p)]) ∧ Below w.heap.size w w' := by
  have Hz := Lib.hid hz
  obtain ⟨x, hx⟩ : ∃ x, chk p = x := ⟨_, rfl⟩
  rw [hx] at hc ⊢
  have Hx := Lib.hid hx
  have hc0 : (x == 0) = false := by simpa using hc
  clear hz hx
  have hb : Hid (Below w.heap.size w (w.alloc (Obj.cells #[.slice a p.length c] 22))) := (Below.refl _ w).alloc (Nat.le_refl _) _
  go_enter Try.func24, Try.ntmps24
  go_wp2_with (go_at_call 10; refine (check_any _ _ _ _ hn (Hz.out.below hb.out (Nat.le_refl _))).mono ?_; rintro e w' ⟨rfl, rfl⟩; rw [Hx.out])
  go_ret2
  exact ⟨rfl, hb.out⟩

theorem Cls.mono {w : World} {base b : Nat} {v : Value} {vs : List Value} {L : List (List Nat)} (h : Cls w base v vs L) (hb : b ≤ base) : Cls w b v vs L := by
  refine ⟨?_, h.len, fun i hi => (h.row i hi).mono hb, h.ne⟩
  obtain ⟨h1, h2⟩ := h.own
  refine ⟨h1, ?_⟩
  rcases h2 with h2 | ⟨g', cap', cur, hv, hb', hr⟩
  · exact .inl h2
  · exact .inr ⟨_, _, _, hv, Nat.le_trans hb hb', hr⟩

set_option maxHeartbeats 1600000 in
theorem classes_good (a : Option Addr) (c : Nat) (p : List Int) (w : World) (hz : Ints w a p) (hv : Valid p) :
    Calls Try.prog 24 #[.slice a p.length c] w fun e w' => ∃ v vs, e = .returned (.tuple #[v, .int .i64 0]) ∧ Cls w' w.heap.size v vs (clsTo p p.length) ∧ Below w.heap.size w w' := by
  obtain ⟨i0, hi, hz0, hz1, hz2⟩ := info_parts int_info
  obtain ⟨n, hl⟩ : ∃ n, p.length = n := ⟨_, rfl⟩
  have hn : n ≤ 8192 := by rw [← hl]; exact hv.short
  have Hz := Lib.hid hz
  have Hv := Lib.hid hv
  have Hx := Lib.hid (chk_of hv)
  have Hl := Lib.hid hl
  clear hz hv
  have hb : Hid (Below w.heap.size w (w.alloc (Obj.cells #[.slice a n c] 22))) := (Below.refl _ w).alloc (Nat.le_refl _) _
  rw [hl]
  clear hl
  have hck : ∀ X : World, Below w.heap.size w X → Calls Try.prog 10 #[.slice a n c] X fun e w' => e = .returned (.int .i64 0) ∧ X = w' := fun X hX => by
    have := check_any a c p X (by rw [Hl.out]; unfold maxLen; omega) (Hz.out.below hX (Nat.le_refl _))
    rw [Hx.out, Hl.out] at this
    exact this
  go_enter Try.func24, Try.ntmps24
  go_wp2_with (first | (go_at_call 10; refine (hck _ hb.out).mono ?_; rintro e w' ⟨rfl, rfl⟩) | (at_make; refine wpList_make_full _ rfl _ _ 22 rfl w.heap.size 3 i0 (.int .i64 0) 1 Try.underlying22 hi hz0 hz1 _ _ _ _ n rfl rfl rfl rfl ?c1 ?c2 ?c3 ?_))
  case c1 => rw [hz2]; omega
  case c2 => unfold maxLen; omega
  case c3 => simp; omega
  intro w1 hown hg
  have hlt := (World.ownsRow.lt hown (w.heap.size + 1 + 1) rfl).2
  have hg0 := hg
  have cp1 : w1.cell? ⟨w.heap.size, 0, none⟩ = some (.slice a n c) := cell_kept' hg0 (by simp [go_sem]) (.inl rfl)
  have cc1 : w1.cell? ⟨w.heap.size + 1, 0, none⟩ = some (.slice none 0 0) := cell_kept' hg0 (by simp [go_sem]) (.inl rfl)
  have fc1 : w1.frozen? ⟨w.heap.size + 1, 0, none⟩ = false := (hg0.frozen_far _ (by simp) (by simp)).trans (by simp [go_sem])
  have hb1 : Below w.heap.size w w1 := ((hb.out.alloc (by simp) _).grown hg0 (by simp; omega) (fun k hk => by cases hk))
  have hrow : Row w1 w.heap.size (w.heap.size + 1 + 1) n (List.replicate n 0) := by
    unfold Row
    rw [List.length_replicate, show (List.replicate n (0 : Int)).map (Value.int .i64) = (madeCells #[Value.int .i64 0] n).toList by rw [toList_madeCells_one]; simp]
    exact hown
  have o : Ordr w.heap.size (w1.heap.size + 1) w.heap.size (w.heap.size + 1) w1.heap.size (w.heap.size + 1 + 1) :=
    ⟨by omega, by omega, by omega, by omega, by omega, by omega, by omega, by omega, by omega, by omega, by omega, by omega, by omega⟩
  have hbl : w1.heap.size ≠ w.heap.size ∧ w1.heap.size ≠ w.heap.size + 1 := by omega
  have hga := World.grownBy_alloc w1 (Obj.cells #[Value.slice (some ⟨w.heap.size + 1 + 1, 0, none⟩) n n] 22) none
  have hsk : Sk w (w1.alloc (Obj.cells #[Value.slice (some ⟨w.heap.size + 1 + 1, 0, none⟩) n n] 22)) w.heap.size (w1.heap.size + 1) n w.heap.size (w.heap.size + 1) w1.heap.size (w.heap.size + 1 + 1) a c nl (List.replicate n 0) := by
    refine ⟨cell_kept' hga cp1 (.inl rfl), by simp, cell_kept' hga cc1 (.inl rfl), (hga.frozen_far _ (by simp; omega) (by simp)).trans fc1, hrow.alloc _, by simp, hb1.alloc (by omega) _, by simp⟩
  have hst : St w (w1.alloc (Obj.cells #[Value.slice (some ⟨w.heap.size + 1 + 1, 0, none⟩) n n] 22)) w.heap.size (w1.heap.size + 1) n w.heap.size (w.heap.size + 1) w1.heap.size (w.heap.size + 1 + 1) a c nl [] (List.replicate n 0) (clsTo p 0) (repsTo p 0) :=
    ⟨hsk, Cls.nil _ _, fun i hi => by simp [repsTo] at hi, by simp [repsTo, clsTo]⟩
  have c2 := hsk.cp
  have Hst := Lib.hid hst
  have Ho := Lib.hid o
  clear hown hg hg0 hb1 hrow o hga hsk hst
  go_wp2
  go_loopw [20] (fun i wr => ∃ (k : Nat) (v : Value) (vs : List Value) (zs : List Int), k ≤ n ∧ i = .int .i64 k ∧ St w wr w.heap.size (w1.heap.size + 1) n w.heap.size (w.heap.size + 1) w1.heap.size (w.heap.size + 1 + 1) a c v vs zs (clsTo p k) (repsTo p k)) (fun i _ => n - (intOf i).toNat)
  case atStart => exact ⟨0, _, _, _, Nat.zero_le _, rfl, Hst.out⟩
  case round =>
    obtain ⟨k, v, vs, zs, hk, rfl, hs⟩ := hrel
    have Hs := Lib.hid hs
    have cc3 := hs.sk.cc
    clear hs
    by_cases hlt : k < n
    · go_wp2_with (go_at_call 28; refine (collect_any w w.heap.size (w1.heap.size + 1) n w.heap.size (w.heap.size + 1) w1.heap.size (w.heap.size + 1 + 1) a c p Ho.out hn Hv.out Hl.out Hz.out (Nat.le_refl _) _ k hlt v vs zs Hs.out).mono ?_; rintro e w' ⟨rfl, v', vs', zs', hs'⟩; have Hs' := Lib.hid hs'; clear hs')
      go_roundw
      case rel => exact ⟨k + 1, v', vs', zs', by omega, by go_num, Hs'.out⟩
      case measure => simp [intOf]; omega
    · obtain rfl : k = n := by omega
      obtain ⟨av, cv, rfl⟩ := shapeS' Hs.out.cls.own
      go_wp2
      go_ret2
      refine ⟨_, vs, rfl, ?_, Hs.out.sk.below⟩
      exact Hs.out.cls.mono (by omega)
end Go.Proofs.Ytmpofbiphklilaa
