/-
  The definition's sorted, two halves and their merge.
-/
import Derived.Test.YthgnbpiemkcdhaaGSorted
import Derived.Deep.RegionHeld3
namespace Go.Proofs.Ythgnbpiemkcdhaa
open Go.RowKit Go.Shelf Go.WideShapes
set_option linter.unusedVariables false

theorem OwnP.below {w w' : World} {base B : Nat} {v : Value} {ps : List (Int × Int)} (h : OwnP w base v ps) (hb : Below B w w') (hB : w.heap.size ≤ B) : OwnP w' base v ps := by
  obtain ⟨h1, h2⟩ := h
  refine ⟨h1, ?_⟩
  rcases h2 with h2 | ⟨g', cap', cur, hv, hb', hh, hr⟩
  · exact .inl h2
  · refine .inr ⟨_, _, _, hv, hb', (hb.block _ ?_).trans hh, hr⟩
    rcases Nat.lt_or_ge g' w.heap.size with hlt | hge
    · omega
    · rw [Array.getElem?_eq_none hge] at hh; cases hh
theorem Pairs.drop {w : World} {b off : Nat} {ps : List (Int × Int)} (h : ∀ i, i < ps.length → w.cell? ⟨b, off + i * 2, none⟩ = some (.int .i64 (ps.getD i (0, 0)).1) ∧ w.cell? ⟨b, off + i * 2 + 1, none⟩ = some (.int .i64 (ps.getD i (0, 0)).2)) (k : Nat) : Pairs w (some ⟨b, off + k * 2, none⟩) (ps.drop k) := fun h0 => by
  rw [List.length_drop] at h0
  refine ⟨b, off + k * 2, rfl, fun i hi => ?_⟩
  rw [List.length_drop] at hi
  have := h (k + i) (by omega)
  rw [show off + k * 2 + i * 2 = off + (k + i) * 2 by omega]
  simpa [List.getD_eq_getElem?_getD, List.getElem?_drop] using this
theorem cell_new0 (X : World) (u v : Value) (t : TypeId) : (X.alloc (.cells #[u, v] t)).cell? ⟨X.heap.size, 0, none⟩ = some u := by simp [go_sem]
theorem cell_new1 (X : World) (u v : Value) (t : TypeId) : (X.alloc (.cells #[u, v] t)).cell? ⟨X.heap.size, 1, none⟩ = some v := by simp [go_sem]
theorem cell_drewN0 (w : World) (n : Nat) (u v : Value) (t : TypeId) : ((w.drewN n).alloc (.cells #[u, v] t)).cell? ⟨w.heap.size, 0, none⟩ = some u := cell_new0 (w.drewN n) u v t
theorem cell_drewN1 (w : World) (n : Nat) (u v : Value) (t : TypeId) : ((w.drewN n).alloc (.cells #[u, v] t)).cell? ⟨w.heap.size, 1, none⟩ = some v := cell_new1 (w.drewN n) u v t
theorem keepS2 {W X X' : World} {p q r s : Addr} {B : Nat} {u0 u1 t0 t1 : Value} (H : X.cell? p = some u0 ∧ X.cell? q = some u1 ∧ X.cell? r = some t0 ∧ X.cell? s = some t1 ∧ Below B W X) (hB : W.heap.size = B) (hb : Below X.heap.size X X') :
    X'.cell? p = some u0 ∧ X'.cell? q = some u1 ∧ X'.cell? r = some t0 ∧ X'.cell? s = some t1 ∧ Below B W X' := by
  have hs := H.2.2.2.2.size
  exact ⟨(hb.cell (World.block_lt_of_cell? _ _ H.1)).trans H.1, (hb.cell (World.block_lt_of_cell? _ _ H.2.1)).trans H.2.1, (hb.cell (World.block_lt_of_cell? _ _ H.2.2.1)).trans H.2.2.1, (hb.cell (World.block_lt_of_cell? _ _ H.2.2.2.1)).trans H.2.2.2.1, H.2.2.2.2.trans (hb.mono (by omega))⟩

set_option maxHeartbeats 8000000 in
set_option maxRecDepth 100000 in
theorem sorted_step (b off n c : Nat) (ps : List (Int × Int)) (hl : ps.length = n) (w : World) (hn : n ≤ 100000) (h2 : 2 ≤ n) (hE : Edg w (some ⟨b, off, none⟩) c ps)
    (hcell : ∀ i, i < ps.length → w.cell? ⟨b, off + i * 2, none⟩ = some (.int .i64 (ps.getD i (0, 0)).1) ∧ w.cell? ⟨b, off + i * 2 + 1, none⟩ = some (.int .i64 (ps.getD i (0, 0)).2))
    (IH : ∀ (a : Option Addr) (m c : Nat) (qs : List (Int × Int)) (X : World), qs.length = m → m < n → Edg X a c qs → Calls Try.prog 36 #[.slice a m c] X (SortEnd X qs)) :
    Calls Try.prog 36 #[.slice (some ⟨b, off, none⟩) n c] w (SortEnd w ps) := by
  obtain ⟨h, hh⟩ : ∃ h, n / 2 = h := ⟨_, rfl⟩
  have hh1 : 1 ≤ h := by omega
  have hh2 : h < n := by omega
  have hcap : n ≤ c := by rw [← hl]; exact hE.cap
  have hmax := hE.max
  have hmax' := hmax
  unfold maxLen at hmax'
  have hne : ¬ c = h := by omega
  have hA : ∀ X, Below w.heap.size w X → Calls Try.prog 36 #[.slice (some ⟨b, off, none⟩) h c] X (SortEnd X (ps.take h)) := fun X hb =>
    IH _ h c (ps.take h) X (by rw [List.length_take]; omega) hh2 ⟨(hE.pairs.take h).below hb (Nat.le_refl _), by rw [List.length_take]; omega, hmax, fun e => by cases e⟩
  have hB : ∀ X, Below w.heap.size w X → Calls Try.prog 36 #[.slice (some ⟨b, off + h * 2, none⟩) (n - h) (c - h)] X (SortEnd X (ps.drop h)) := fun X hb =>
    IH _ (n - h) (c - h) (ps.drop h) X (by rw [List.length_drop]; omega) (by omega) ⟨(Pairs.drop hcell h).below hb (Nat.le_refl _), by rw [List.length_drop]; omega, by omega, fun e => by cases e⟩
  have hq1 : IntKind.i64.wrap ((n : Int) / 2) = (h : Int) := by
    rw [show (n : Int) / 2 = (h : Int) by omega]
    simp [IntKind.wrap, IntKind.bits, IntKind.signed]; omega
  have hq2 : (0 : Int) ≤ (h : Int) := by omega
  have hq4 : (h : Int) ≤ (n : Int) := by omega
  have hq5 : (h : Int) ≤ (c : Int) := by omega
  have hq6 : (n : Int) ≤ (c : Int) := by omega
  have hq7 : h ≤ c := by omega
  have hq8 : h ≤ n := by omega
  have HA := Lib.hid hA
  have HB := Lib.hid hB
  have Hl := Lib.hid hl
  have hS0 : Below w.heap.size w w.drew := Drawn.below ⟨1, rfl⟩ _
  clear hA hB hE hcell IH hl hh
  go_enter Try.func36, Try.ntmps36
  go_wp2
  go_region_held3 (fun X => Below w.heap.size w X)
    (first
      | (with_reducible assumption)
      | fail)
    (first
      | (go_at_call 36; (with_reducible refine Calls.mono (HA.out _ (by assumption)) ?_); rintro e wA ⟨v1, A, rfl, hoA, hlA, hcA, hbA⟩; obtain ⟨a1, c1, rfl, hpA⟩ := hoA.shape; have hSA := Below.trans (by assumption : Below w.heap.size w _) (hbA.mono (by exact (by assumption : Below w.heap.size w _).size)))
      | (go_at_call 36; (with_reducible refine Calls.mono (HB.out _ hSA) ?_); rintro e wB ⟨v2, B, rfl, hoB, hlB, hcB, hbB⟩; obtain ⟨a2, c2, rfl, hpB⟩ := hoB.shape; have hSB := Below.trans hSA (hbB.mono hSA.size)))
  have HpA := Lib.hid (hpA.below hbB (Nat.le_refl _))
  have HpB := Lib.hid hpB
  have HbW := Lib.hid hSB
  have HcA := Lib.hid hcA
  have HcB := Lib.hid hcB
  have HlA : A.length ≤ 100000 := by rw [List.length_take] at hlA; omega
  have HlB : B.length ≤ 100000 := by rw [List.length_drop] at hlB; have := Hl.out; omega
  have HlAB : Hid (A.length + B.length ≤ ps.length) := by
    show _ ≤ _
    rw [List.length_take] at hlA
    rw [List.length_drop] at hlB
    have := Hl.out
    omega
  clear hpA hlA hcA hbA hSA hpB hlB hcB hbB hSB hS0 hq1 hq2 hq4 hq5 hq6 hoA hoB
  obtain ⟨na, hna⟩ : ∃ na, A.length = na := ⟨_, rfl⟩
  obtain ⟨nb, hnb⟩ : ∃ nb, B.length = nb := ⟨_, rfl⟩
  have Hna := Lib.hid hna
  have Hnb := Lib.hid hnb
  rw [hna] at HlA ⊢
  rw [hnb] at HlB ⊢
  clear hna hnb
  go_wp2
  go_loopw [5, 6, 7] (fun v i k wr => ∃ (x y : Nat) (acc : List (Int × Int)), x ≤ na ∧ y ≤ nb ∧ i = .int .i64 x ∧ k = .int .i64 y ∧ MI A B x y acc ∧ OwnP wr wB.heap.size v acc ∧ Below wB.heap.size wB wr) (fun _ i k _ => na + nb - (intOf i).toNat - (intOf k).toNat)
  case atStart => exact ⟨0, 0, [], Nat.zero_le _, Nat.zero_le _, rfl, rfl, MI.start A B, OwnP.nil _ _, .refl _ _⟩
  case round =>
    obtain ⟨x, y, acc, hx, hy, rfl, rfl, hmi, hown, hb⟩ := hrel
    have hal := hmi.len
    have hsz := hb.size
    have Hmi := Lib.hid hmi
    have Hown := Lib.hid hown
    have Hb := Lib.hid hb
    have HPA := Lib.hid (HpA.out.below hb (Nat.le_refl _))
    have HPB := Lib.hid (HpB.out.below hb (Nat.le_refl _))
    clear hmi hown hb
    by_cases hx1 : x < na
    · obtain ⟨b1, o1, rfl, hc1⟩ := HPA.out (by rw [Hna.out]; omega)
      obtain ⟨k1, k2⟩ := hc1 x (by rw [Hna.out]; exact hx1)
      obtain ⟨⟨p, q⟩, he⟩ : ∃ e, A.getD x (0, 0) = e := ⟨_, rfl⟩
      rw [he] at k1 k2
      have He := Lib.hid he
      clear hc1 he
      by_cases hy1 : y < nb
      · obtain ⟨b2, o2, rfl, hc2⟩ := HPB.out (by rw [Hnb.out]; omega)
        obtain ⟨k3, k4⟩ := hc2 y (by rw [Hnb.out]; exact hy1)
        obtain ⟨⟨r, s⟩, hf⟩ : ∃ e, B.getD y (0, 0) = e := ⟨_, rfl⟩
        rw [hf] at k3 k4
        have Hf := Lib.hid hf
        clear hc2 hf
        have hS0 : wr.drew.cell? ⟨b1, o1 + x * 2, none⟩ = some (.int .i64 p) ∧ wr.drew.cell? ⟨b1, o1 + x * 2 + 1, none⟩ = some (.int .i64 q) ∧ wr.drew.cell? ⟨b2, o2 + y * 2, none⟩ = some (.int .i64 r) ∧ wr.drew.cell? ⟨b2, o2 + y * 2 + 1, none⟩ = some (.int .i64 s) ∧ Below wr.heap.size wr wr.drew := ⟨k1, k2, k3, k4, Drawn.below ⟨1, rfl⟩ _⟩
        have hny : ((y : Int) == (nb : Int)) = false := by rw [beq_eq_false_iff_ne]; omega
        have hnx : ((x : Int) == (na : Int)) = false := by rw [beq_eq_false_iff_ne]; omega
        have hnx2 : ¬ x = na := by omega
        have hny2 : ¬ y = nb := by omega
        cases hlt : ltE (p, q) (r, s) with
        | true =>
          have Hlt := Lib.hid hlt
          clear hlt
          go_wp2
          go_region_held3 (fun X => X.cell? ⟨b1, o1 + x * 2, none⟩ = some (.int .i64 p) ∧ X.cell? ⟨b1, o1 + x * 2 + 1, none⟩ = some (.int .i64 q) ∧ X.cell? ⟨b2, o2 + y * 2, none⟩ = some (.int .i64 r) ∧ X.cell? ⟨b2, o2 + y * 2 + 1, none⟩ = some (.int .i64 s) ∧ Below wr.heap.size wr X)
            (first | with_reducible assumption | fail)
            (first | (go_at_call 32; (with_reducible refine Calls.mono (less_at p q r s true Hlt.out _) ?_); rintro e wC ⟨rfl, hbC⟩; have hSC := keepS2 (by assumption) rfl hbC))
          have l1 := hSC.1
          have l2 := hSC.2.1
          have l3 := hSC.2.2.1
          have l4 := hSC.2.2.2.1
          have HbC := Lib.hid (Hb.out.trans (hSC.2.2.2.2.mono hsz))
          have HownC := Lib.hid (Hown.out.below hSC.2.2.2.2 (Nat.le_refl _))
          have hszC := HbC.out.size
          clear hSC hbC hS0 k1 k2 k3 k4
          go_wp2_with (at_builtin; refine wpList_append_pair rfl _ _ rfl wB.heap.size _ _ rfl (OwnP.alloc HownC.out _) _ (p, q) rfl (by simp [go_sem]) (by simp [go_sem]) (by omega) (by simp; omega) ?_; intro v' w5 hown5 hg5; have Hown5 := Lib.hid hown5; have Hb5 := Lib.hid (HownC.out.grown hg5 HbC.out hszC); clear hown5 hg5)
          go_roundw
          case rel => exact ⟨x + 1, y, acc ++ [(p, q)], by omega, by omega, by go_num, rfl, Hmi.out.lt (by rw [Hna.out]; exact hx1) (by rw [Hnb.out]; exact hy1) He.out Hf.out Hlt.out, Hown5.out, Hb5.out⟩
          case measure => simp [intOf]; omega
        | false =>
          have Hlt := Lib.hid hlt
          clear hlt
          go_wp2
          go_region_held3 (fun X => X.cell? ⟨b1, o1 + x * 2, none⟩ = some (.int .i64 p) ∧ X.cell? ⟨b1, o1 + x * 2 + 1, none⟩ = some (.int .i64 q) ∧ X.cell? ⟨b2, o2 + y * 2, none⟩ = some (.int .i64 r) ∧ X.cell? ⟨b2, o2 + y * 2 + 1, none⟩ = some (.int .i64 s) ∧ Below wr.heap.size wr X)
            (first | with_reducible assumption | fail)
            (first | (go_at_call 32; (with_reducible refine Calls.mono (less_at p q r s false Hlt.out _) ?_); rintro e wC ⟨rfl, hbC⟩; have hSC := keepS2 (by assumption) rfl hbC))
          have hS1 := keepS2 hSC rfl (show Below wC.heap.size wC wC.drew from Drawn.below ⟨1, rfl⟩ _)
          clear hS0 k1 k2 k3 k4 hbC hSC
          cases hlt2 : ltE (r, s) (p, q) with
          | true =>
            have Hlt2 := Lib.hid hlt2
            clear hlt2
            go_wp2
            go_region_held3 (fun X => X.cell? ⟨b1, o1 + x * 2, none⟩ = some (.int .i64 p) ∧ X.cell? ⟨b1, o1 + x * 2 + 1, none⟩ = some (.int .i64 q) ∧ X.cell? ⟨b2, o2 + y * 2, none⟩ = some (.int .i64 r) ∧ X.cell? ⟨b2, o2 + y * 2 + 1, none⟩ = some (.int .i64 s) ∧ Below wr.heap.size wr X)
              (first | with_reducible assumption | fail)
              (first | (go_at_call 32; (with_reducible refine Calls.mono (less_at r s p q true Hlt2.out _) ?_); rintro e wD ⟨rfl, hbD⟩; have hSD := keepS2 (by assumption) rfl hbD))
            have l1 := hSD.1
            have l2 := hSD.2.1
            have l3 := hSD.2.2.1
            have l4 := hSD.2.2.2.1
            have HbD := Lib.hid (Hb.out.trans (hSD.2.2.2.2.mono hsz))
            have HownD := Lib.hid (Hown.out.below hSD.2.2.2.2 (Nat.le_refl _))
            have hszD := HbD.out.size
            clear hSD hbD hS1
            go_wp2_with (at_builtin; refine wpList_append_pair rfl _ _ rfl wB.heap.size _ _ rfl (OwnP.alloc HownD.out _) _ (r, s) rfl (by simp [go_sem]) (by simp [go_sem]) (by omega) (by simp; omega) ?_; intro v' w5 hown5 hg5; have Hown5 := Lib.hid hown5; have Hb5 := Lib.hid (HownD.out.grown hg5 HbD.out hszD); clear hown5 hg5)
            go_roundw
            case rel => exact ⟨x, y + 1, acc ++ [(r, s)], by omega, by omega, rfl, by go_num, Hmi.out.gt (by rw [Hna.out]; exact hx1) (by rw [Hnb.out]; exact hy1) He.out Hf.out Hlt.out Hlt2.out, Hown5.out, Hb5.out⟩
            case measure => simp [intOf]; omega
          | false =>
            have Hlt2 := Lib.hid hlt2
            clear hlt2
            go_wp2
            go_region_held3 (fun X => X.cell? ⟨b1, o1 + x * 2, none⟩ = some (.int .i64 p) ∧ X.cell? ⟨b1, o1 + x * 2 + 1, none⟩ = some (.int .i64 q) ∧ X.cell? ⟨b2, o2 + y * 2, none⟩ = some (.int .i64 r) ∧ X.cell? ⟨b2, o2 + y * 2 + 1, none⟩ = some (.int .i64 s) ∧ Below wr.heap.size wr X)
              (first | with_reducible assumption | fail)
              (first | (go_at_call 32; (with_reducible refine Calls.mono (less_at r s p q false Hlt2.out _) ?_); rintro e wD ⟨rfl, hbD⟩; have hSD := keepS2 (by assumption) rfl hbD))
            have HbD := Lib.hid (Hb.out.trans (hSD.2.2.2.2.mono hsz))
            have HownD := Lib.hid (Hown.out.below hSD.2.2.2.2 (Nat.le_refl _))
            clear hSD hbD hS1
            go_wp2
            go_roundw
            case rel => exact ⟨x + 1, y, acc, by omega, by omega, by go_num, rfl, Hmi.out.eq (by rw [Hna.out]; exact hx1) (by rw [Hnb.out]; exact hy1) He.out Hf.out Hlt.out Hlt2.out, HownD.out, HbD.out⟩
            case measure => simp [intOf]; omega
      · obtain rfl : y = nb := by omega
        go_wp2
        go_quiet (fail)
        go_wp2_with (at_builtin; refine wpList_append_pair rfl _ _ rfl wB.heap.size _ _ rfl (OwnP.alloc (OwnP.drewN Hown.out _) _) _ (p, q) rfl (cell_drewN0 _ _ _ _ _) (cell_drewN1 _ _ _ _ _) (by omega) (by simp; omega) ?_; intro v' w5 hown5 hg5; have Hown5 := Lib.hid hown5; have Hb5 := Lib.hid ((OwnP.drewN Hown.out _).grown hg5 (Hb.out.trans (Drawn.below ⟨_, rfl⟩ _)) hsz); clear hown5 hg5)
        go_roundw
        case rel => exact ⟨x + 1, y, acc ++ [(p, q)], by omega, by omega, by go_num, rfl, Hmi.out.left (by rw [Hna.out]; exact hx1) Hnb.out.symm He.out, Hown5.out, Hb5.out⟩
        case measure => simp [intOf]; omega
    · obtain rfl : x = na := by omega
      by_cases hy1 : y < nb
      · obtain ⟨b2, o2, rfl, hc2⟩ := HPB.out (by rw [Hnb.out]; omega)
        obtain ⟨k3, k4⟩ := hc2 y (by rw [Hnb.out]; exact hy1)
        obtain ⟨⟨r, s⟩, hf⟩ : ∃ e, B.getD y (0, 0) = e := ⟨_, rfl⟩
        rw [hf] at k3 k4
        have Hf := Lib.hid hf
        clear hc2 hf
        have hny : ((y : Int) == (nb : Int)) = false := by rw [beq_eq_false_iff_ne]; omega
        have hny2 : ¬ y = nb := by omega
        go_wp2
        go_quiet (fail)
        go_wp2
        go_quiet (fail)
        go_wp2_with (at_builtin; refine wpList_append_pair rfl _ _ rfl wB.heap.size _ _ rfl (OwnP.alloc (OwnP.drewN Hown.out _) _) _ (r, s) rfl (cell_drewN0 _ _ _ _ _) (cell_drewN1 _ _ _ _ _) (by omega) (by simp; omega) ?_; intro v' w5 hown5 hg5; have Hown5 := Lib.hid hown5; have Hb5 := Lib.hid ((OwnP.drewN Hown.out _).grown hg5 (Hb.out.trans (Drawn.below ⟨_, rfl⟩ _)) hsz); clear hown5 hg5)
        go_roundw
        case rel => exact ⟨x, y + 1, acc ++ [(r, s)], by omega, by omega, rfl, by go_num, Hmi.out.right Hna.out.symm (by rw [Hnb.out]; exact hy1) Hf.out, Hown5.out, Hb5.out⟩
        case measure => simp [intOf]; omega
      · obtain rfl : y = nb := by omega
        go_wp2
        go_ret
        refine ⟨_, acc, rfl, Hown.out.mono HbW.out.size, ?_, ?_, ?_⟩
        · have := HlAB.out; rw [Hna.out, Hnb.out] at this; omega
        · rw [Hmi.out.done Hna.out.symm Hnb.out.symm]
          have := canon_mrg HcA.out HcB.out
          rwa [List.take_append_drop] at this
        · exact HbW.out.trans (Hb.out.mono HbW.out.size)
theorem sorted_any : ∀ (L : Nat) (a : Option Addr) (n c : Nat) (ps : List (Int × Int)) (w : World), ps.length = n → n ≤ L → n ≤ 100000 → Edg w a c ps → Calls Try.prog 36 #[.slice a n c] w (SortEnd w ps) := by
  intro L
  induction L using Nat.strongRecOn with
  | _ L ih =>
    intro a n c ps w hl hL hn hE
    by_cases h2 : n < 2
    · exact sorted_small a n c ps hl w h2 hE
    · obtain ⟨b, off, rfl, hcell⟩ := hE.pairs (by omega)
      exact sorted_step b off n c ps hl w hn (by omega) hE hcell fun a m c qs X hm hlt hX => ih m (by omega) a m c qs X hm (Nat.le_refl _) (by omega) hX
end Go.Proofs.Ythgnbpiemkcdhaa
