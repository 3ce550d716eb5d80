/-
  slices.Compact at edges: runs of equal edges become one.
-/
import Derived.Test.YtopbbihbpalnlaaGSort
namespace Go.Proofs.Ytopbbihbpalnlaa
open Go.RowKit Go.Shelf Go.Lib Go.Sort
set_option linter.unusedVariables false

/-- The first p edges, each run of equal ones as one. -/
def cpt (ps : List (Int × Int)) : Nat → List (Int × Int)
  | 0 => []
  | p + 1 => if 0 < p ∧ ps.getD p (0, 0) = ps.getD (p - 1) (0, 0) then cpt ps p else cpt ps p ++ [ps.getD p (0, 0)]
theorem cpt_same {ps : List (Int × Int)} {p : Nat} (h0 : 0 < p) (h : ps.getD p (0, 0) = ps.getD (p - 1) (0, 0)) : cpt ps (p + 1) = cpt ps p := by
  show (if _ then _ else _) = _
  rw [if_pos ⟨h0, h⟩]
theorem cpt_new {ps : List (Int × Int)} {p : Nat} (h : p = 0 ∨ ps.getD p (0, 0) ≠ ps.getD (p - 1) (0, 0)) : cpt ps (p + 1) = cpt ps p ++ [ps.getD p (0, 0)] := by
  show (if _ then _ else _) = _
  rw [if_neg]
  rintro ⟨a, b⟩
  rcases h with h | h
  · omega
  · exact h b
theorem length_cpt (ps : List (Int × Int)) (p : Nat) : (cpt ps p).length ≤ p := by
  induction p with
  | zero => simp [cpt]
  | succ p ih =>
    by_cases h : 0 < p ∧ ps.getD p (0, 0) = ps.getD (p - 1) (0, 0)
    · rw [cpt_same h.1 h.2]; omega
    · rw [cpt_new (by
        by_cases h0 : 0 < p
        · exact .inr fun e => h ⟨h0, e⟩
        · exact .inl (by omega))]
      simp; omega
/-- No two neighbours of the first k are equal. -/
theorem cpt_take {ps : List (Int × Int)} {k : Nat} (hk : k ≤ ps.length) (h : ∀ i, 0 < i → i < k → ps.getD i (0, 0) ≠ ps.getD (i - 1) (0, 0)) : cpt ps k = ps.take k := by
  induction k with
  | zero => rfl
  | succ k ih =>
    rw [cpt_new (by
      rcases Nat.eq_zero_or_pos k with h0 | h0
      · exact .inl h0
      · exact .inr (h k h0 (by omega))), ih (by omega) fun i h1 h2 => h i h1 (by omega), List.take_succ_eq_append_getElem (by omega)]
    simp [List.getD_eq_getElem?_getD, show k < ps.length by omega]

theorem RP.drewN {w : World} {g : Nat} {ps : List (Int × Int)} (h : RP w g ps) (n : Nat) : RP (w.drewN n) g ps := ⟨h.lt, h.c0, h.c1, h.free⟩
theorem RP.set {w : World} {g : Nat} {ps : List (Int × Int)} (h : RP w g ps) (i : Nat) (a b : Int) (hi : i < ps.length) : RP ((w.setCell ⟨g, i * 2, none⟩ (.int .i64 a)).setCell ⟨g, i * 2 + 1, none⟩ (.int .i64 b)) g (ps.set i (a, b)) := by
  refine ⟨by simpa using h.lt, fun j hj => ?_, fun j hj => ?_, fun j => by rw [World.frozen?_setCell, World.frozen?_setCell]; exact h.free j⟩
  · rw [List.length_set] at hj
    rw [World.cell?_setCell_other _ _ _ _ (by simp <;> omega)]
    by_cases e : j = i
    · subst e
      rw [World.cell?_setCell_same' _ _ _ (by rw [h.c0 j hj]; rfl)]
      simp [List.getD_eq_getElem?_getD, hj]
    · rw [World.cell?_setCell_other _ _ _ _ (by simp <;> omega), h.c0 j hj]
      simp [List.getD_eq_getElem?_getD, Ne.symm e]
  · rw [List.length_set] at hj
    by_cases e : j = i
    · subst e
      rw [World.cell?_setCell_same' _ _ _ (by rw [World.cell?_setCell_other _ _ _ _ (by simp), h.c1 j hj]; rfl)]
      simp [List.getD_eq_getElem?_getD, hj]
    · rw [World.cell?_setCell_other _ _ _ _ (by simp <;> omega), World.cell?_setCell_other _ _ _ _ (by simp <;> omega), h.c1 j hj]
      simp [List.getD_eq_getElem?_getD, Ne.symm e]
theorem grown_set2 (w : World) (g i : Nat) (a b : Value) : w.grownBy ((w.setCell ⟨g, i, none⟩ a).setCell ⟨g, i + 1, none⟩ b) (some g) :=
  grown_trans (grown_setCell w g i a) (grown_setCell _ g (i + 1) b)
theorem grown_setCells (g : Nat) : ∀ (vs : List Value) (o : Nat) (w : World), w.grownBy (w.setCells g o vs) (some g)
  | [], _, w => World.grownBy.refl w _
  | v :: r, o, w => by
    rw [World.setCells]
    exact grown_trans (grown_setCell w g o v) (grown_setCells g r (o + 1) _)
theorem cell_setCells_low (g : Nat) : ∀ (vs : List Value) (o : Nat) (w : World) (j : Nat), j < o → (w.setCells g o vs).cell? ⟨g, j, none⟩ = w.cell? ⟨g, j, none⟩
  | [], _, _, _, _ => rfl
  | v :: r, o, w, j, h => by
    rw [World.setCells, cell_setCells_low g r (o + 1) _ j (by omega), World.cell?_setCell_other _ _ _ _ (by simp <;> omega)]
theorem frozen_setCells (g : Nat) : ∀ (vs : List Value) (o : Nat) (w : World) (q : Addr), (w.setCells g o vs).frozen? q = w.frozen? q
  | [], _, _, _ => rfl
  | v :: r, o, w, q => by
    rw [World.setCells, frozen_setCells g r (o + 1) _ q, World.frozen?_setCell]
theorem run_clear_edges (w : World) (ty : TypeId) (b o n c : Nat) (hn : 0 < n) (hc : ∀ j, j < n * 2 → (w.cell? ⟨b, o + j, none⟩).isSome = true) (hf : ∀ j, j < n * 2 → w.frozen? ⟨b, o + j, none⟩ = false) :
    (Builtin.clear_ #[22] ty #[.slice (some ⟨b, o, none⟩) n c]).run Try.prog w = .ok (.tuple #[]) (w.setCells b o (List.replicate (n * 2) (.int .i64 0))) := by
  have hzc : (Builtin.zeroCells #[Value.int .i64 0, Value.int .i64 0] n).toList = List.replicate (n * 2) (.int .i64 0) := by
    simp [Builtin.zeroCells]
    apply List.ext_getElem
    · simp
    · intro i h1 h2
      have : i % 2 = 0 ∨ i % 2 = 1 := by omega
      rcases this with e | e <;> simp [e]
  have hst := run_storeCells_cells (P := Try.prog) b o (List.replicate (n * 2) (.int .i64 0)) 0 w (by simpa using hc) (by simpa using hf) (by intro v hv'; rw [List.eq_of_mem_replicate hv']; rfl)
  simp only [Nat.add_zero] at hst
  obtain ⟨m, rfl⟩ : ∃ m, n = m + 1 := ⟨n - 1, by omega⟩
  have hz : ∀ w, (zeroValue 44).run Try.prog w = .ok (.agg #[.int .i64 0, .int .i64 0]) w := Try.zeroValue44
  simp [Builtin.clear_, run_underlying Try.underlying22, hz, Value.cells, hzc, hst]

set_option maxHeartbeats 1600000 in
theorem compact_any (g c : Nat) (ps : List (Int × Int)) (w : World) (h : RP w g ps) (hn : ps.length ≤ 100000) (hc : ps.length ≤ c) :
    Calls Try.prog 55 #[.slice (some ⟨g, 0, none⟩) ps.length c] w fun e w' =>
      ∃ m, e = .returned (.slice (some ⟨g, 0, none⟩) m c) ∧ m = (cpt ps ps.length).length ∧ RP w' g (cpt ps ps.length) ∧ w.grownBy w' (some g) := by
  obtain ⟨n, hl⟩ : ∃ n, ps.length = n := ⟨_, rfl⟩
  have Hl := Lib.hid hl
  have H := Lib.hid h
  rw [hl] at hn hc ⊢
  clear hl h
  by_cases h2 : n < 2
  · have hcp := Lib.hid (show cpt ps n = ps by
      rw [← Hl.out, cpt_take (Nat.le_refl _) (fun i h0 h1 => by rw [Hl.out] at h1; omega), List.take_length])
    go_enter Try.func55, Try.ntmps55
    go_wp2
    go_ret
    exact ⟨n, rfl, by rw [hcp.out, Hl.out], by rw [hcp.out]; exact H.out, World.grownBy.refl _ _⟩
  · go_enter Try.func55, Try.ntmps55
    go_wp2
    go_loopw [3] (fun ii wr => ∃ k : Nat, 1 ≤ k ∧ k ≤ n ∧ ii = .int .i64 k ∧ (∀ i, 0 < i → i < k → ps.getD i (0, 0) ≠ ps.getD (i - 1) (0, 0)) ∧ Drawn w wr) (fun ii _ => n - (intOf ii).toNat)
    case atStart => exact ⟨1, Nat.le_refl _, by omega, rfl, fun i h0 h1 => by omega, .refl _⟩
    case round =>
      obtain ⟨k, hk1, hkn, rfl, hne, nd, rfl⟩ := hrel
      have Hne := Lib.hid hne
      clear hne
      by_cases hlt : k < n
      · have cx := H.out.c0 k (by rw [Hl.out]; exact hlt)
        have cy := H.out.c1 k (by rw [Hl.out]; exact hlt)
        have cx' := H.out.c0 (k - 1) (by rw [Hl.out]; omega)
        have cy' := H.out.c1 (k - 1) (by rw [Hl.out]; omega)
        obtain ⟨⟨x, y⟩, he⟩ : ∃ e, ps.getD k (0, 0) = e := ⟨_, rfl⟩
        obtain ⟨⟨x', y'⟩, he'⟩ : ∃ e, ps.getD (k - 1) (0, 0) = e := ⟨_, rfl⟩
        rw [he] at cx cy
        rw [he'] at cx' cy'
        have He := Lib.hid he
        have He' := Lib.hid he'
        clear he he'
        have hk2 : k - 1 < n := by omega
        by_cases hxx : x = x'
        · by_cases hyy : y = y'
          · subst hxx hyy
            have hck := cpt_take (ps := ps) (k := k) (by rw [Hl.out]; omega) Hne.out
            have hst : Hid (cpt ps (k + 1) = ps.take k) := by
              show _ = _
              rw [cpt_same hk1 (by rw [He.out, He'.out]), hck]
            have hR0 : Hid (RP w g (cpt ps (k + 1) ++ ps.drop k)) := by
              show RP _ _ _
              rw [hst.out, List.take_append_drop]; exact H.out
            have hlk : Hid ((cpt ps (k + 1)).length = k) := by
              show _ = _
              rw [hst.out, List.length_take, Hl.out]; omega
            have hck0 : ¬ c = k := by omega
            clear hck
            go_wp2
            go_quiet (fail)
            go_wp2
            clear cx cy cx' cy'
            go_loopw [3, 5] (fun kk jj wr => ∃ q j : Nat, 1 ≤ j ∧ k + j ≤ n ∧ kk = .int .i64 q ∧ jj = .int .i64 j ∧ q = (cpt ps (k + j)).length ∧ q + 1 ≤ k + j ∧ RP wr g (cpt ps (k + j) ++ ps.drop q) ∧ w.grownBy wr (some g)) (fun _ jj _ => n - k - (intOf jj).toNat)
            case atStart => exact ⟨k, 1, Nat.le_refl _, by omega, rfl, rfl, hlk.out.symm, Nat.le_refl _, hR0.out.drewN _, grown_drewN (World.grownBy.refl _ _) _⟩
            case round =>
              obtain ⟨q, j, hj1, hjn, rfl, rfl, hq, hqk, hR, hg⟩ := hrel
              have HR := Lib.hid hR
              have Hg := Lib.hid hg
              have Hq := Lib.hid hq
              clear hR hg hq
              have hml : Hid ((cpt ps (k + j) ++ ps.drop q).length = n) := by
                show _ = _
                rw [List.length_append, ← Hq.out, List.length_drop, Hl.out]; omega
              by_cases hlt2 : k + j < n
              · have hat : ∀ p, q ≤ p → (cpt ps (k + j) ++ ps.drop q).getD p (0, 0) = ps.getD p (0, 0) := fun p hp => by
                  rw [List.getD_eq_getElem?_getD, List.getElem?_append_right (by rw [← Hq.out]; exact hp), ← Hq.out, List.getElem?_drop, show q + (p - q) = p by omega, ← List.getD_eq_getElem?_getD]
                have cx := HR.out.c0 (k + j) (by rw [hml.out]; exact hlt2)
                have cy := HR.out.c1 (k + j) (by rw [hml.out]; exact hlt2)
                have cx' := HR.out.c0 (k + j - 1) (by rw [hml.out]; omega)
                have cy' := HR.out.c1 (k + j - 1) (by rw [hml.out]; omega)
                rw [hat _ (by omega)] at cx cy cx' cy'
                obtain ⟨⟨u, v⟩, he⟩ : ∃ e, ps.getD (k + j) (0, 0) = e := ⟨_, rfl⟩
                obtain ⟨⟨u', v'⟩, he'⟩ : ∃ e, ps.getD (k + j - 1) (0, 0) = e := ⟨_, rfl⟩
                rw [he] at cx cy
                rw [he'] at cx' cy'
                rw [show (k + j) * 2 = k * 2 + j * 2 by omega] at cx cy
                rw [show (k + j - 1) * 2 = k * 2 + (j - 1) * 2 by omega] at cx' cy'
                have Hu := Lib.hid he
                have Hu' := Lib.hid he'
                have hjm : j < n - k := by omega
                have hjm1 : j - 1 < n - k := by omega
                have z0 := HR.out.c0 q (by rw [hml.out]; omega)
                have z1 := HR.out.c1 q (by rw [hml.out]; omega)
                have f0 := HR.out.free (q * 2)
                have f1 := HR.out.free (q * 2 + 1)
                generalize (cpt ps (k + j) ++ ps.drop q).getD q (0, 0) = zz at z0 z1
                have hqn : q < n := by omega
                clear he he' hat
                by_cases hsame : (u, v) = (u', v')
                · cases hsame
                  have hnx : Hid (cpt ps (k + (j + 1)) = cpt ps (k + j)) := by
                    show _ = _
                    rw [show k + (j + 1) = k + j + 1 by omega, cpt_same (by omega) (by rw [Hu.out, Hu'.out])]
                  go_wp2
                  go_quiet (fail)
                  go_wp2
                  go_roundw
                  case rel => exact ⟨q, j + 1, by omega, by omega, rfl, by go_num, by rw [hnx.out]; exact Hq.out, by omega, by rw [hnx.out]; exact HR.out.drewN _, grown_drewN Hg.out _⟩
                  case measure => simp [intOf]; omega
                · have hnx : Hid (cpt ps (k + (j + 1)) = cpt ps (k + j) ++ [(u, v)]) := by
                    show _ = _
                    rw [show k + (j + 1) = k + j + 1 by omega, cpt_new (.inr (by rw [Hu.out, Hu'.out]; exact hsame)), Hu.out]
                  have hset : Hid ((cpt ps (k + j) ++ ps.drop q).set q (u, v) = cpt ps (k + (j + 1)) ++ ps.drop (q + 1)) := by
                    show _ = _
                    rw [hnx.out, List.set_append_right _ _ (by rw [← Hq.out]; exact Nat.le_refl _), ← Hq.out, Nat.sub_self, List.drop_eq_getElem_cons (by rw [Hl.out]; omega), List.set_cons_zero]
                    simp
                  have hR2 := Lib.hid (HR.out.set q u v (by rw [hml.out]; exact hqn))
                  have hR3 : ∀ D, RP ((( wr.drewN D).setCell ⟨g, q * 2, none⟩ (.int .i64 u)).setCell ⟨g, q * 2 + 1, none⟩ (.int .i64 v)) g (cpt ps (k + (j + 1)) ++ ps.drop (q + 1)) := fun D => by
                    rw [← hset.out]; exact (HR.out.drewN D).set q u v (by rw [hml.out]; exact hqn)
                  have HR3 := Lib.hid hR3
                  have hlen2 : Hid ((cpt ps (k + (j + 1))).length = q + 1) := by
                    show _ = _
                    rw [hnx.out, List.length_append, ← Hq.out]; rfl
                  clear hR3
                  by_cases huu : u = u'
                  · have t0 : (v == v') = false := by
                      rw [beq_eq_false_iff_ne]; rintro rfl; exact hsame (by rw [huu])
                    subst huu
                    go_wp2
                    go_quiet (fail)
                    go_wp2
                    go_roundw
                    case rel => exact ⟨q + 1, j + 1, by omega, by omega, by go_num, by go_num, hlen2.out.symm, by omega, HR3.out _, grown_trans (grown_drewN Hg.out _) (grown_set2 _ g (q * 2) _ _)⟩
                    case measure => simp [intOf]; omega
                  · have t0 : (u == u') = false := by rw [beq_eq_false_iff_ne]; exact huu
                    go_wp2
                    go_quiet (fail)
                    go_wp2
                    go_roundw
                    case rel => exact ⟨q + 1, j + 1, by omega, by omega, by go_num, by go_num, hlen2.out.symm, by omega, HR3.out _, grown_trans (grown_drewN Hg.out _) (grown_set2 _ g (q * 2) _ _)⟩
                    case measure => simp [intOf]; omega
              · have hkj : k + j = n := by omega
                have hje : ¬ j < n - k := by omega
                have hcq : ¬ c = q := by omega
                have hqc : q ≤ c := by omega
                have hqn : q ≤ n := by omega
                have hcl : ∀ ty, (Builtin.clear_ #[22] ty #[.slice (some ⟨g, q * 2, none⟩) (n - q) (c - q)]).run Try.prog wr = .ok (.tuple #[]) (wr.setCells g (q * 2) (List.replicate ((n - q) * 2) (.int .i64 0))) := fun ty =>
                  run_clear_edges wr ty g (q * 2) (n - q) (c - q) (by omega) (fun i hi => by
                    have hp : (q * 2 + i) / 2 < n := by omega
                    rcases Nat.mod_two_eq_zero_or_one (q * 2 + i) with e | e
                    · have := HR.out.c0 ((q * 2 + i) / 2) (by rw [hml.out]; exact hp)
                      rw [show (q * 2 + i) / 2 * 2 = q * 2 + i by omega] at this
                      rw [this]; rfl
                    · have := HR.out.c1 ((q * 2 + i) / 2) (by rw [hml.out]; exact hp)
                      rw [show (q * 2 + i) / 2 * 2 + 1 = q * 2 + i by omega] at this
                      rw [this]; rfl) (fun i hi => HR.out.free _)
                have hend : Hid (RP (wr.setCells g (q * 2) (List.replicate ((n - q) * 2) (.int .i64 0))) g (cpt ps n)) := by
                  show RP _ _ _
                  rw [show cpt ps n = cpt ps (k + j) by rw [hkj]]
                  have hap : ∀ i, i < (cpt ps (k + j)).length → (cpt ps (k + j) ++ ps.drop q).getD i (0, 0) = (cpt ps (k + j)).getD i (0, 0) := fun i hi => by
                    simp [List.getD_eq_getElem?_getD, List.getElem?_append_left hi]
                  have hgs := grown_setCells g (List.replicate ((n - q) * 2) (.int .i64 0)) (q * 2) wr
                  refine ⟨Nat.lt_of_lt_of_le HR.out.lt hgs.size, fun i hi => ?_, fun i hi => ?_, fun i => by rw [frozen_setCells]; exact HR.out.free i⟩
                  · rw [cell_setCells_low g _ _ _ _ (by have := Hq.out; omega), HR.out.c0 i (by rw [hml.out]; have := Hq.out; omega), hap i hi]
                  · rw [cell_setCells_low g _ _ _ _ (by have := Hq.out; omega), HR.out.c1 i (by rw [hml.out]; have := Hq.out; omega), hap i hi]
                have Hgf := Lib.hid (grown_trans Hg.out (grown_setCells g (List.replicate ((n - q) * 2) (.int .i64 0)) (q * 2) wr))
                have Hqf : Hid (q = (cpt ps n).length) := by show _ = _; rw [show cpt ps n = cpt ps (k + j) by rw [hkj]]; exact Hq.out
                go_wp2
                go_ret
                exact ⟨q, rfl, Hqf.out, hend.out, Hgf.out⟩
          · have t0 : (y == y') = false := by rw [beq_eq_false_iff_ne]; exact hyy
            have hn2 : Hid (∀ i, 0 < i → i < k + 1 → ps.getD i (0, 0) ≠ ps.getD (i - 1) (0, 0)) := by
              intro i h0 h1
              by_cases e : i = k
              · subst e; rw [He.out, He'.out]; intro h; cases h; exact hyy rfl
              · exact Hne.out i h0 (by omega)
            go_wp2
            go_quiet (fail)
            go_wp2
            go_roundw
            case rel => exact ⟨k + 1, by omega, by omega, by go_num, hn2.out, _, rfl⟩
            case measure => simp [intOf]; omega
        · have t0 : (x == x') = false := by rw [beq_eq_false_iff_ne]; exact hxx
          have hn2 : Hid (∀ i, 0 < i → i < k + 1 → ps.getD i (0, 0) ≠ ps.getD (i - 1) (0, 0)) := by
            intro i h0 h1
            by_cases e : i = k
            · subst e; rw [He.out, He'.out]; intro h; cases h; exact hxx rfl
            · exact Hne.out i h0 (by omega)
          go_wp2
          go_quiet (fail)
          go_wp2
          go_roundw
          case rel => exact ⟨k + 1, by omega, by omega, by go_num, hn2.out, _, rfl⟩
          case measure => simp [intOf]; omega
      · obtain rfl : k = n := by omega
        have hcp := Lib.hid (show cpt ps k = ps by
          rw [cpt_take (by rw [Hl.out]; omega) Hne.out, ← Hl.out, List.take_length])
        go_wp2
        go_ret
        exact ⟨k, rfl, by rw [hcp.out, Hl.out], by rw [hcp.out]; exact H.out.drewN _, grown_drewN (World.grownBy.refl _ _) _⟩
end Go.Proofs.Ytopbbihbpalnlaa
