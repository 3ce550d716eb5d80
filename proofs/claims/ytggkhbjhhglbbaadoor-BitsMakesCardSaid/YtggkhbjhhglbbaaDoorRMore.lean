/-
  The definition's Valid, in, Within; EqualInts of two lists.
-/
import Derived.Test.YtggkhbjhhglbbaaDoorRList
import Derived.Test.YtggkhbjhhglbbaaDoorAlg
namespace Go.Proofs.YtggkhbjhhglbbaaDoor
open Go.RowKit Go.WideShapes
set_option linter.unusedVariables false

theorem valid_none {ws : List Nat} (h : (asInts (elems ws)).length = 0) : true = valid ws := by
  rw [length_asInts, List.length_eq_zero_iff] at h
  unfold valid
  rw [h]; rfl
theorem valid_last {ws : List Nat} {m : Nat} (h : (asInts (elems ws)).length = m + 1) : decide ((asInts (elems ws)).getD m 0 < 65536) = valid ws := by
  rw [length_asInts] at h
  rw [getD_asInts]
  unfold valid
  rw [Bool.eq_iff_iff, decide_eq_true_eq, decide_eq_true_eq]
  constructor
  · intro h1 i hi
    obtain ⟨j, hj, rfl⟩ := mem_getD hi
    rcases Nat.lt_or_ge j m with c | c
    · have := asc_getD (asc_elems ws) c (by omega); omega
    · rw [show j = m from by omega]; omega
  · intro h1
    have := h1 _ (getD_mem (l := elems ws) (i := m) (by omega))
    omega

set_option maxHeartbeats 800000 in
theorem rvalid_any {a : Option Addr} {c : Nat} {ws : List Nat} {w : World} (hg : Good w a c ws) :
    Calls Tryd.prog 12 #[.slice a ws.length c] w fun e w' => e = .returned (.bool (valid ws)) ∧ Below w.heap.size w w' := by
  have hcl := card_le' hg.len
  have Hg := Lib.hid hg
  rw [← length_asInts] at hcl
  have Hnone := Lib.hid (valid_none (ws := ws))
  have Hlast := Lib.hid (fun m => valid_last (ws := ws) (m := m))
  obtain ⟨zs, hzs⟩ : ∃ zs, asInts (elems ws) = zs := ⟨_, rfl⟩
  have Hzs := Lib.hid hzs
  rw [hzs] at hcl Hnone Hlast
  obtain ⟨res, hres⟩ : ∃ res, valid ws = res := ⟨_, rfl⟩
  rw [hres] at Hnone Hlast ⊢
  clear hg hzs hres
  rcases Nat.eq_zero_or_pos zs.length with h0 | h0
  · have H0 := Lib.hid h0
    have hfin := Lib.hid (Hnone.out h0)
    clear h0 hcl
    go_enter Tryd.func12, Tryd.ntmps12
    go_wp2_with fail
    refine (rlist_open Hg.out Hzs.out H0.out).mono ?_
    rintro e w1 ⟨al, cl, rfl, hi, hb⟩
    have Hb := Lib.hid hb
    clear hi hb
    go_wp2
    go_ret
    exact ⟨ret_bool hfin.out, Hb.out⟩
  · obtain ⟨m, hm⟩ : ∃ m, zs.length = m + 1 := ⟨zs.length - 1, by omega⟩
    have Hm := Lib.hid hm
    have hml : m ≤ 70400 := by omega
    have hl := Hlast.out m hm
    obtain ⟨p, hp⟩ : ∃ p, zs.getD m 0 = p := ⟨_, rfl⟩
    have Hp := Lib.hid hp
    rw [hp] at hl
    have hfin := Lib.hid hl
    clear h0 hcl hm hp hl
    by_cases hlt : p < 65536
    · go_enter Tryd.func12, Tryd.ntmps12
      go_wp2_with fail
      refine (rlist_open Hg.out Hzs.out Hm.out).mono ?_
      rintro e w1 ⟨al, cl, rfl, hi, hb⟩
      have Hb := Lib.hid hb
      obtain ⟨bl, off, rfl, hc⟩ := hi (by rw [Hm.out]; omega)
      have ck := hc m (by rw [Hm.out]; omega)
      rw [Hp.out] at ck
      clear hi hb hc
      go_wp2
      go_ret
      exact ⟨ret_bool (by rw [← hfin.out]; simp [hlt]), Hb.out⟩
    · have hge : 65536 ≤ p := by omega
      go_enter Tryd.func12, Tryd.ntmps12
      go_wp2_with fail
      refine (rlist_open Hg.out Hzs.out Hm.out).mono ?_
      rintro e w1 ⟨al, cl, rfl, hi, hb⟩
      have Hb := Lib.hid hb
      obtain ⟨bl, off, rfl, hc⟩ := hi (by rw [Hm.out]; omega)
      have ck := hc m (by rw [Hm.out]; omega)
      rw [Hp.out] at ck
      clear hi hb hc
      go_wp2
      go_ret
      exact ⟨ret_bool (by rw [← hfin.out]; simp; omega), Hb.out⟩

/-- Strictly ascending ints. -/
def AscI (l : List Int) : Prop := ∀ i j, i < j → j < l.length → l.getD i 0 < l.getD j 0
theorem ascI_elems (ws : List Nat) : AscI (asInts (elems ws)) := fun i j hij hj => by
  rw [length_asInts] at hj
  rw [getD_asInts, getD_asInts]
  have := asc_getD (asc_elems ws) hij hj
  omega

set_option maxHeartbeats 1600000 in
theorem rin_any (a : Option Addr) (c n : Nat) (zs : List Int) (x : Int) (w : World) (hl : zs.length = n) (hn : n ≤ 100000) (hz : Ints w a zs) (hs : AscI zs) :
    Calls Tryd.prog 42 #[.slice a n c, .int .i64 x] w fun e w' => e = .returned (.bool (decide (x ∈ zs))) ∧ w = w' := by
  have Hz := Lib.hid hz
  have Hs := Lib.hid hs
  have Hl := Lib.hid hl
  clear hz hs hl
  go_enter Tryd.func42, Tryd.ntmps42
  go_wp2
  go_loop [5, 6] (fun lo hi => ∃ l h : Nat, l ≤ h ∧ h ≤ n ∧ lo = .int .i64 l ∧ hi = .int .i64 h ∧ (∀ j, j < l → zs.getD j 0 < x) ∧ ∀ j, h ≤ j → j < n → x ≤ zs.getD j 0) (fun lo hi => (intOf hi).toNat - (intOf lo).toNat)
  case atStart => exact ⟨0, n, Nat.zero_le _, Nat.le_refl _, rfl, rfl, fun j hj => absurd hj (by omega), fun j h1 h2 => absurd h1 (by omega)⟩
  case round =>
    obtain ⟨l, h, hlh, hhn, rfl, rfl, hlow, hhigh⟩ := hrel
    have Hlow := Lib.hid hlow
    have Hhigh := Lib.hid hhigh
    clear hlow hhigh
    by_cases hlt : l < h
    · obtain ⟨m, hm⟩ : ∃ m, (l + h) / 2 = m := ⟨_, rfl⟩
      have hm1 : l ≤ m := by omega
      have hm2 : m < h := by omega
      have hq : ((l : Int) + (h : Int)) / 2 = (m : Int) := by omega
      have hq2 : ((l : Int) + (h : Int)).tdiv 2 = (m : Int) := by rw [Int.tdiv_eq_ediv_of_nonneg (by omega)]; exact hq
      obtain ⟨bl, off, rfl, hc⟩ := Hz.out (by rw [Hl.out]; omega)
      have ck := hc m (by rw [Hl.out]; omega)
      have Hasc := Lib.hid (fun j => Hs.out j m)
      have Hasc2 := Lib.hid (fun j => Hs.out m j)
      obtain ⟨p, hp⟩ : ∃ p, zs.getD m 0 = p := ⟨_, rfl⟩
      have Hp := Lib.hid hp
      rw [hp] at ck
      clear hc hm hp
      by_cases e : p < x
      · go_wp2
        go_round
        case rel =>
          refine ⟨m + 1, h, by omega, hhn, by go_num, rfl, fun j hj => ?_, Hhigh.out⟩
          by_cases e2 : j = m
          · rw [e2, Hp.out]; exact e
          · have := Hasc.out j (by omega) (by rw [Hl.out]; omega); rw [Hp.out] at this; omega
        case measure => simp [intOf]; omega
      · go_wp2
        go_round
        case rel =>
          refine ⟨l, m, hm1, by omega, rfl, rfl, Hlow.out, fun j h1 h2 => ?_⟩
          by_cases e2 : j = m
          · rw [e2, Hp.out]; omega
          · have := Hasc2.out j (by omega) (by rw [Hl.out]; exact h2); rw [Hp.out] at this; omega
        case measure => simp [intOf]; omega
    · obtain rfl : l = h := by omega
      by_cases hln : l < n
      · obtain ⟨bl, off, rfl, hc⟩ := Hz.out (by rw [Hl.out]; omega)
        have ck := hc l (by rw [Hl.out]; omega)
        obtain ⟨p, hp⟩ : ∃ p, zs.getD l 0 = p := ⟨_, rfl⟩
        have Hp := Lib.hid hp
        rw [hp] at ck
        have hfin := Lib.hid (show (p == x) = decide (x ∈ zs) by
          rw [Bool.eq_iff_iff, beq_iff_eq, decide_eq_true_eq, intMem, Hl.out]
          constructor
          · intro h1; exact ⟨l, hln, by rw [Hp.out]; exact h1⟩
          · rintro ⟨j, hj, hx⟩
            rcases Nat.lt_trichotomy j l with c1 | c1 | c1
            · have := Hlow.out j c1; omega
            · subst c1; rw [← Hp.out]; exact hx
            · have := Hs.out l j c1 (by rw [Hl.out]; exact hj); rw [Hp.out] at this
              have := Hhigh.out l (Nat.le_refl _) hln
              rw [Hp.out] at this; omega)
        clear hc hp
        go_wp2
        go_ret
        exact ⟨ret_bool hfin.out, rfl⟩
      · have hfin := Lib.hid (show false = decide (x ∈ zs) by
          symm; rw [decide_eq_false_iff_not, intMem, Hl.out]; rintro ⟨j, hj, hx⟩
          have := Hlow.out j (by omega); omega)
        go_wp2
        go_ret
        exact ⟨ret_bool hfin.out, rfl⟩

theorem asInts_mem {l : List Nat} {x : Int} : x ∈ asInts l ↔ ∃ i ∈ l, (i : Int) = x := by simp [asInts]
theorem rwithin_no {wa wb : List Nat} (ha : Wf wa) (hb : Wf wb) {k : Nat} (hk : k < (asInts (elems wa)).length) (h : (asInts (elems wa)).getD k 0 ∉ asInts (elems wb)) : false = withinB wa wb := by
  symm
  rw [← Bool.not_eq_true]
  intro h2
  refine h (asInts_mem.2 ⟨(elems wa).getD k 0, ?_, ?_⟩)
  · rw [length_asInts] at hk
    exact mem_elems.2 ((withinB_iff ha hb).1 h2 _ (mem_elems.1 (getD_mem hk)))
  · rw [getD_asInts]
theorem rwithin_yes {wa wb : List Nat} (ha : Wf wa) (hb : Wf wb) (h : ∀ k, k < (asInts (elems wa)).length → (asInts (elems wa)).getD k 0 ∈ asInts (elems wb)) : true = withinB wa wb := by
  symm
  rw [withinB_iff ha hb]
  intro i hi
  obtain ⟨j, hj, rfl⟩ := mem_getD (mem_elems.2 hi)
  have := h j (by rw [length_asInts]; exact hj)
  rw [getD_asInts] at this
  obtain ⟨i2, h1, h2⟩ := asInts_mem.1 this
  rw [show i2 = (elems wa).getD j 0 from by omega] at h1
  exact mem_elems.1 h1

set_option maxHeartbeats 1600000 in
theorem rwithin_any {a : Option Addr} {c : Nat} {wa : List Nat} {b : Option Addr} {d : Nat} {wb : List Nat} {w : World} (h1 : Good w a c wa) (h2 : Good w b d wb) :
    Calls Tryd.prog 22 #[.slice a wa.length c, .slice b wb.length d] w fun e w' => e = .returned (.bool (withinB wa wb)) ∧ Below w.heap.size w w' := by
  have hca := card_le' h1.len
  have hcb := card_le' h2.len
  rw [← length_asInts] at hca hcb
  have Hno := Lib.hid (fun k => rwithin_no h1.wf h2.wf (k := k))
  have Hyes := Lib.hid (rwithin_yes h1.wf h2.wf)
  have Hsb := Lib.hid (ascI_elems wb)
  have H1 := Lib.hid h1
  have H2 := Lib.hid h2
  obtain ⟨za, hza⟩ : ∃ zs, asInts (elems wa) = zs := ⟨_, rfl⟩
  obtain ⟨zb, hzb⟩ : ∃ zs, asInts (elems wb) = zs := ⟨_, rfl⟩
  have Hza := Lib.hid hza
  have Hzb := Lib.hid hzb
  rw [hza] at hca Hno Hyes
  rw [hzb] at hcb Hno Hyes Hsb
  obtain ⟨res, hres⟩ : ∃ res, withinB wa wb = res := ⟨_, rfl⟩
  rw [hres] at Hno Hyes ⊢
  clear h1 h2 hza hzb hres
  go_enter Tryd.func22, Tryd.ntmps22
  go_wp2_with fail
  refine (rlist_open H1.out Hza.out rfl).mono ?_
  rintro e w1 ⟨aa, ca, rfl, hia, hb1⟩
  have Hia := Lib.hid hia
  have Hb1 := Lib.hid hb1
  have G2 := Lib.hid (H2.out.below hb1 (Nat.le_refl _))
  clear hia hb1
  go_wp2_with fail
  refine (rlist_open G2.out Hzb.out rfl).mono ?_
  rintro e w2 ⟨ab, cb, rfl, hib, hb2⟩
  have Hib := Lib.hid hib
  have Hia2 := Lib.hid (Hia.out.below hb2 (Nat.le_refl _))
  have Hb2 := Lib.hid (Hb1.out.trans (hb2.mono Hb1.out.size))
  clear hib hb2
  go_wp2_with fail
  go_loop [7] (fun i => ∃ k : Nat, k ≤ za.length ∧ i = .int .i64 k ∧ ∀ j, j < k → za.getD j 0 ∈ zb) (fun i => za.length - (intOf i).toNat)
  case atStart => exact ⟨0, Nat.zero_le _, rfl, fun j hj => absurd hj (by omega)⟩
  case round =>
    obtain ⟨k, hk, rfl, hall⟩ := hrel
    have Hall := Lib.hid hall
    clear hall
    by_cases hlt : k < za.length
    · obtain ⟨bl, off, rfl, hc⟩ := Hia2.out (by omega)
      have ck := hc k hlt
      obtain ⟨p, hp⟩ : ∃ p, za.getD k 0 = p := ⟨_, rfl⟩
      have Hp := Lib.hid hp
      rw [hp] at ck
      clear hc hp
      by_cases e : p ∈ zb
      · have Hd := Lib.hid (decide_eq_true e)
        have E := Lib.hid e
        clear e
        go_wp2_with fail
        refine (rin_any ab cb zb.length zb p w2 rfl (by omega) Hib.out Hsb.out).mono ?_
        rw [Hd.out]
        rintro e w' ⟨rfl, rfl⟩
        go_wp2_with fail
        go_round
        case rel =>
          refine ⟨k + 1, by omega, by go_num, fun j hj => ?_⟩
          by_cases e2 : j = k
          · rw [e2, Hp.out]; exact E.out
          · exact Hall.out j (by omega)
        case measure => simp [intOf]; omega
      · have hfin := Lib.hid (Hno.out k hlt (by rw [Hp.out]; exact e))
        have Hd := Lib.hid (decide_eq_false e)
        clear e
        go_wp2_with fail
        refine (rin_any ab cb zb.length zb p w2 rfl (by omega) Hib.out Hsb.out).mono ?_
        rw [Hd.out]
        rintro e w' ⟨rfl, rfl⟩
        go_wp2_with fail
        go_ret
        exact ⟨ret_bool hfin.out, Hb2.out⟩
    · have hfin := Lib.hid (Hyes.out fun j hj => Hall.out j (by omega))
      go_wp2_with fail
      go_ret
      exact ⟨ret_bool hfin.out, Hb2.out⟩
end Go.Proofs.YtggkhbjhhglbbaaDoor
