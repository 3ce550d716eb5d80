/-
  The walk of the definition's less and Check.
-/
import Derived.Test.YtcmliokkamgcdaaGCheck
namespace Go.Proofs.Ytcmliokkamgcdaa
open Go.RowKit
set_option linter.unusedVariables false

set_option maxHeartbeats 800000 in
theorem less_any (a b : Int × Int) (w : World) :
    Calls Try.prog 58 #[.agg #[.int .i64 a.1, .int .i64 a.2], .agg #[.int .i64 b.1, .int .i64 b.2]] w fun e w' => e = .returned (.bool (ltE a b)) ∧ Below w.heap.size w w' := by
  obtain ⟨a1, a2⟩ := a
  obtain ⟨b1, b2⟩ := b
  show Calls _ _ #[.agg #[.int .i64 a1, .int .i64 a2], .agg #[.int .i64 b1, .int .i64 b2]] w _
  have hb := Lib.hid (((Below.refl w.heap.size w).alloc (Nat.le_refl _) (Obj.cells #[Value.int .i64 a1, Value.int .i64 a2] 52)).alloc (by simp) (Obj.cells #[Value.int .i64 b1, Value.int .i64 b2] 52))
  rcases Int.lt_trichotomy a1 b1 with h | h | h
  · have hr : Hid (true = ltE (a1, a2) (b1, b2)) := by show _ = _; unfold ltE; simp [h]
    go_enter Try.func58, Try.ntmps58
    go_wp2
    go_ret
    exact ⟨ret_bool hr.out, hb.out⟩
  · subst h
    by_cases h2 : a2 < b2
    · have hr : Hid (true = ltE (a1, a2) (a1, b2)) := by show _ = _; unfold ltE; simp [h2]
      go_enter Try.func58, Try.ntmps58
      go_wp2
      go_ret
      exact ⟨ret_bool hr.out, hb.out⟩
    · have hr : Hid (false = ltE (a1, a2) (a1, b2)) := by show _ = _; unfold ltE; simp; omega
      go_enter Try.func58, Try.ntmps58
      go_wp2
      go_ret
      exact ⟨ret_bool hr.out, hb.out⟩
  · have hr : Hid (false = ltE (a1, a2) (b1, b2)) := by show _ = _; unfold ltE; simp; omega
    have he : (a1 == b1) = false := by rw [beq_eq_false_iff_ne]; omega
    go_enter Try.func58, Try.ntmps58
    go_wp2
    go_ret
    exact ⟨ret_bool (by rw [← hr.out]; simp; try omega), hb.out⟩

set_option maxHeartbeats 1600000 in
theorem rcheck_any (N : Int) (a : Option Addr) (c : Nat) (ps : List (Int × Int)) (w : World) (hn : ps.length ≤ maxLen) (hp : Pairs w a ps) :
    Calls Try.prog 43 #[.agg #[.int .i64 N, .slice a ps.length c]] w fun e w' => e = .returned (.int .i64 (gchk N ps)) ∧ Below w.heap.size w w' := by
  unfold maxLen at hn
  have hb0 : Hid (Below w.heap.size w (w.alloc (Obj.cells #[Value.int .i64 N, Value.slice a ps.length c] 24))) := (Below.refl _ w).alloc (Nat.le_refl _) _
  by_cases c1 : N < 0
  · have hc : Hid (4 = gchk N ps) := by show 4 = gchk N ps; unfold gchk; rw [if_pos c1]
    go_enter Try.func43, Try.ntmps43
    go_wp2
    go_ret
    exact ⟨ret_int hc.out, hb0.out⟩
  by_cases c2 : 8192 < N
  · have hc : Hid (3 = gchk N ps) := by show 3 = gchk N ps; unfold gchk; rw [if_neg c1, if_pos c2]
    go_enter Try.func43, Try.ntmps43
    go_wp2
    go_ret
    exact ⟨ret_int hc.out, hb0.out⟩
  by_cases c3 : 32768 < ps.length
  · have hc : Hid (3 = gchk N ps) := by show 3 = gchk N ps; unfold gchk; rw [if_neg c1, if_neg c2, if_pos c3]
    go_enter Try.func43, Try.ntmps43
    go_wp2
    go_ret
    exact ⟨ret_int hc.out, hb0.out⟩
  have hc : Hid (gchk N ps = gchkN N ps (ps.length - 0) 0) := by show gchk N ps = _; unfold gchk; rw [if_neg c1, if_neg c2, if_neg c3]; rfl
  obtain ⟨r, hr⟩ : ∃ r, gchk N ps = r := ⟨_, rfl⟩
  have Hr := Lib.hid hr
  rw [hr]
  clear hr
  obtain ⟨n, hl⟩ : ∃ n, ps.length = n := ⟨_, rfl⟩
  have Hl := Lib.hid hl
  have Hp := Lib.hid hp
  rw [hl] at hn c3 hc hb0 ⊢
  clear hl hp
  go_enter Try.func43, Try.ntmps43
  go_wp2
  go_loopw [3] (fun i wr => ∃ k : Nat, k ≤ n ∧ i = .int .i64 k ∧ gchk N ps = gchkN N ps (n - k) k ∧ Below (w.heap.size + 1) (w.alloc (Obj.cells #[Value.int .i64 N, Value.slice a n c] 24)) wr) (fun i _ => n - (intOf i).toNat)
  case atStart => exact ⟨0, Nat.zero_le _, rfl, hc.out, Below.refl _ _⟩
  case round =>
    obtain ⟨k, hk, rfl, hr0, hb⟩ := hrel
    have hgr : Hid (gchk N ps = gchkN N ps (ps.length - k) k) := by show _ = _; rw [Hl.out]; exact hr0
    have g0 : wr.cell? ⟨w.heap.size, 0, none⟩ = some (.int .i64 N) := (hb.cell (p := ⟨w.heap.size, 0, none⟩) (by simp)).trans (by simp)
    have g1 : wr.cell? ⟨w.heap.size, 1, none⟩ = some (.slice a n c) := (hb.cell (p := ⟨w.heap.size, 1, none⟩) (by simp)).trans (by simp)
    have ga0 : ∀ o, (wr.alloc o).cell? ⟨w.heap.size, 0, none⟩ = some (.int .i64 N) := fun o => (((Below.refl wr.heap.size wr).alloc (Nat.le_refl _) o).cell (p := ⟨w.heap.size, 0, none⟩) (World.block_lt_of_cell? _ _ g0)).trans g0
    have ga1 : ∀ o, (wr.alloc o).cell? ⟨w.heap.size, 1, none⟩ = some (.slice a n c) := fun o => (((Below.refl wr.heap.size wr).alloc (Nat.le_refl _) o).cell (p := ⟨w.heap.size, 1, none⟩) (World.block_lt_of_cell? _ _ g1)).trans g1
    have Hb := Lib.hid hb
    have Hbw := Lib.hid (hb0.out.trans (hb.mono (Nat.le_succ _)))
    have hsz : w.heap.size + 1 ≤ wr.heap.size := by have := hb.size; simpa using this
    clear hr0 hb
    by_cases hlt : k < n
    · obtain ⟨b, off, rfl, hcell⟩ := (Hp.out.below Hbw.out (Nat.le_refl _)) (by rw [Hl.out]; omega)
      have hck := hcell k (by rw [Hl.out]; exact hlt)
      have hcp := fun h : 0 < k => hcell (k - 1) (by rw [Hl.out]; omega)
      obtain ⟨⟨x, y⟩, he⟩ : ∃ e, ps.getD k (0, 0) = e := ⟨_, rfl⟩
      obtain ⟨⟨x', y'⟩, he'⟩ : ∃ e, ps.getD (k - 1) (0, 0) = e := ⟨_, rfl⟩
      rw [he] at hck
      rw [he'] at hcp
      obtain ⟨hcx, hcy⟩ := hck
      have He := Lib.hid he
      have He' := Lib.hid he'
      clear he he' hcell
      by_cases d1 : isNd N x = true
      · obtain ⟨x0, x1⟩ := isNd_iff.1 d1
        by_cases d2 : isNd N y = true
        · obtain ⟨y0, y1⟩ := isNd_iff.1 d2
          rcases Nat.eq_zero_or_pos k with hk0 | hk0
          · have t := Lib.hid (gchk_next hgr.out (by rw [Hl.out]; exact hlt) (by rw [He.out]; exact d1) (by rw [He.out]; exact d2) (.inl hk0))
            have tk : ¬ (0 : Int) < (k : Int) := by omega
            have tk2 : ¬ 0 < k := by omega
            clear hk0 hcp
            go_wp2
            go_quiet (fail)
            go_wp2
            go_roundw
            case rel => exact ⟨k + 1, by omega, by go_num, by rw [← Hl.out]; exact t.out, (Hb.out.alloc hsz _).trans (Drawn.below ⟨_, rfl⟩ _)⟩
            case measure => simp [intOf]; omega
          · obtain ⟨hcx', hcy'⟩ := hcp hk0
            clear hcp
            have hza := fun o => (((Below.refl wr.heap.size wr).alloc (Nat.le_refl _) o).cell (p := ⟨b, off + (k - 1) * 2, none⟩) (World.block_lt_of_cell? _ _ hcx')).trans hcx'
            have hzb := fun o => (((Below.refl wr.heap.size wr).alloc (Nat.le_refl _) o).cell (p := ⟨b, off + (k - 1) * 2 + 1, none⟩) (World.block_lt_of_cell? _ _ hcy')).trans hcy'
            obtain ⟨z, hz⟩ : ∃ z, ltE (x', y') (x, y) = z := ⟨_, rfl⟩
            have hby : ∀ X, Calls Try.prog 58 #[.agg #[.int .i64 x', .int .i64 y'], .agg #[.int .i64 x, .int .i64 y]] X fun e w' => e = .returned (.bool z) ∧ Below X.heap.size X w' := fun X => by
              have := less_any (x', y') (x, y) X
              rw [hz] at this
              exact this
            have hS : ((wr.alloc (Obj.cells #[Value.int .i64 x, Value.int .i64 y] 52)).drew.cell? ⟨w.heap.size, 1, none⟩ = some (.slice (some ⟨b, off, none⟩) n c) ∧ (wr.alloc (Obj.cells #[Value.int .i64 x, Value.int .i64 y] 52)).drew.cell? ⟨wr.heap.size, 0, none⟩ = some (.int .i64 x) ∧ (wr.alloc (Obj.cells #[Value.int .i64 x, Value.int .i64 y] 52)).drew.cell? ⟨wr.heap.size, 1, none⟩ = some (.int .i64 y) ∧ (wr.alloc (Obj.cells #[Value.int .i64 x, Value.int .i64 y] 52)).drew.cell? ⟨b, off + (k - 1) * 2, none⟩ = some (.int .i64 x') ∧ (wr.alloc (Obj.cells #[Value.int .i64 x, Value.int .i64 y] 52)).drew.cell? ⟨b, off + (k - 1) * 2 + 1, none⟩ = some (.int .i64 y')) :=
              ⟨ga1 _, by simp, by simp, hza _, hzb _⟩
            have Hba := Lib.hid (Hb.out.alloc hsz (Obj.cells #[Value.int .i64 x, Value.int .i64 y] 52))
            have hkb : (k : Int) ≤ 32768 := by omega
            have hk1 : (0 : Int) < (k : Int) := by omega
            have hwr : IntKind.i64.wrap ((k : Int) - 1) = ((k - 1 : Nat) : Int) := by
              simp [IntKind.wrap, IntKind.bits, IntKind.signed]; omega
            have hk2 : k - 1 < n := by omega
            cases z with
            | true =>
              have d3 := hz
              have t := Lib.hid (gchk_next hgr.out (by rw [Hl.out]; exact hlt) (by rw [He.out]; exact d1) (by rw [He.out]; exact d2) (.inr (by rw [He.out, He'.out]; exact d3)))
              clear hz hza hzb hcx' hcy' d3
              have Hby := Lib.hid hby
              clear hby
              go_wp2
              go_region_held3 (fun X => X.cell? ⟨w.heap.size, 1, none⟩ = some (.slice (some ⟨b, off, none⟩) n c) ∧ X.cell? ⟨wr.heap.size, 0, none⟩ = some (.int .i64 x) ∧ X.cell? ⟨wr.heap.size, 1, none⟩ = some (.int .i64 y) ∧ X.cell? ⟨b, off + (k - 1) * 2, none⟩ = some (.int .i64 x') ∧ X.cell? ⟨b, off + (k - 1) * 2 + 1, none⟩ = some (.int .i64 y'))
                (first | with_reducible assumption | fail)
                (first | (go_at_call 58; (with_reducible refine Calls.mono (Hby.out _) ?_); rintro e wB ⟨rfl, hbB⟩; have hSB : wB.cell? ⟨w.heap.size, 1, none⟩ = some (.slice (some ⟨b, off, none⟩) n c) ∧ wB.cell? ⟨wr.heap.size, 0, none⟩ = some (.int .i64 x) ∧ wB.cell? ⟨wr.heap.size, 1, none⟩ = some (.int .i64 y) ∧ wB.cell? ⟨b, off + (k - 1) * 2, none⟩ = some (.int .i64 x') ∧ wB.cell? ⟨b, off + (k - 1) * 2 + 1, none⟩ = some (.int .i64 y') := ⟨cell_kb hS.1 hbB, cell_kb hS.2.1 hbB, cell_kb hS.2.2.1 hbB, cell_kb hS.2.2.2.1 hbB, cell_kb hS.2.2.2.2 hbB⟩))
              have Hf := Lib.hid ((Hba.out.trans (Drawn.below ⟨1, rfl⟩ _)).trans (hbB.mono (by simp; omega)))
              clear hbB hSB
              go_wp2
              go_roundw
              case rel => exact ⟨k + 1, by omega, by go_num, by rw [← Hl.out]; exact t.out, Hf.out⟩
              case measure => simp [intOf]; omega
            | false =>
              have d3 := hz
              have t := Lib.hid (gchk_order hgr.out (by rw [Hl.out]; exact hlt) (by rw [He.out]; exact d1) (by rw [He.out]; exact d2) hk0 (by rw [He.out, He'.out]; exact d3))
              clear hz hza hzb hcx' hcy' d3
              have Hby := Lib.hid hby
              clear hby
              go_wp2
              go_region_held3 (fun X => X.cell? ⟨w.heap.size, 1, none⟩ = some (.slice (some ⟨b, off, none⟩) n c) ∧ X.cell? ⟨wr.heap.size, 0, none⟩ = some (.int .i64 x) ∧ X.cell? ⟨wr.heap.size, 1, none⟩ = some (.int .i64 y) ∧ X.cell? ⟨b, off + (k - 1) * 2, none⟩ = some (.int .i64 x') ∧ X.cell? ⟨b, off + (k - 1) * 2 + 1, none⟩ = some (.int .i64 y'))
                (first | with_reducible assumption | fail)
                (first | (go_at_call 58; (with_reducible refine Calls.mono (Hby.out _) ?_); rintro e wB ⟨rfl, hbB⟩; have hSB : wB.cell? ⟨w.heap.size, 1, none⟩ = some (.slice (some ⟨b, off, none⟩) n c) ∧ wB.cell? ⟨wr.heap.size, 0, none⟩ = some (.int .i64 x) ∧ wB.cell? ⟨wr.heap.size, 1, none⟩ = some (.int .i64 y) ∧ wB.cell? ⟨b, off + (k - 1) * 2, none⟩ = some (.int .i64 x') ∧ wB.cell? ⟨b, off + (k - 1) * 2 + 1, none⟩ = some (.int .i64 y') := ⟨cell_kb hS.1 hbB, cell_kb hS.2.1 hbB, cell_kb hS.2.2.1 hbB, cell_kb hS.2.2.2.1 hbB, cell_kb hS.2.2.2.2 hbB⟩))
              have Hf := Lib.hid ((Hba.out.trans (Drawn.below ⟨1, rfl⟩ _)).trans (hbB.mono (by simp; omega)))
              clear hbB hSB
              go_wp2
              go_ret
              exact ⟨ret_int (by rw [← Hr.out, t.out]), hb0.out.trans (Hf.out.mono (Nat.le_succ _))⟩
        · simp only [Bool.not_eq_true] at d2
          have t := Lib.hid (gchk_to hgr.out (by rw [Hl.out]; exact hlt) (by rw [He.out]; exact d1) (by rw [He.out]; exact d2))
          have dd := isNd_not.1 d2
          rcases (show y < 0 ∨ (0 ≤ y ∧ N ≤ y) from by omega) with y1 | ⟨y0, y1⟩
          all_goals
            clear dd
            go_wp2
            go_ret
            exact ⟨ret_int (by rw [← Hr.out, t.out]), Hbw.out.alloc (Nat.le_trans (Nat.le_succ _) hsz) _⟩
      · simp only [Bool.not_eq_true] at d1
        have t := Lib.hid (gchk_from hgr.out (by rw [Hl.out]; exact hlt) (by rw [He.out]; exact d1))
        have dd := isNd_not.1 d1
        rcases (show x < 0 ∨ (0 ≤ x ∧ N ≤ x) from by omega) with x1 | ⟨x0, x1⟩
        all_goals
          clear dd
          go_wp2
          go_ret
          exact ⟨ret_int (by rw [← Hr.out, t.out]), Hbw.out.alloc (Nat.le_trans (Nat.le_succ _) hsz) _⟩
    · have t := Lib.hid (gchk_end hgr.out (by rw [Hl.out]; exact hlt))
      go_wp2
      go_ret
      exact ⟨ret_int (by rw [← Hr.out, t.out]), Hbw.out⟩
end Go.Proofs.Ytcmliokkamgcdaa
