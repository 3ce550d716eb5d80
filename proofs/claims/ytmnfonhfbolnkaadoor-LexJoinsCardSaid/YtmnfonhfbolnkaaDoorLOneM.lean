/-
  What first finds is the token at the beginning: the plain part.
-/
import Derived.Test.YtmnfonhfbolnkaaDoorLTok
import Derived.Test.YtmnfonhfbolnkaaDoorLFirst
namespace Go.Proofs.YtmnfonhfbolnkaaDoor
open Go.RowKit
set_option linter.unusedVariables false

theorem runOf_lb (s : ByteArray) : runOf s = s.extract 0 (lb isWordR s 0) := by unfold runOf; rw [ledP_lb asc_word]
theorem dig_word {r : Int} (h : isDigR r = true) : isWordR r = true := by unfold isWordR; rw [h]; simp
theorem let_word {r : Int} (h : isLetR r = true) : isWordR r = true := by unfold isWordR; rw [h]; simp
theorem dig_iff (r : Int) : isDigR r = true ↔ 48 ≤ r ∧ r ≤ 57 := by unfold isDigR; simp
theorem let_iff (r : Int) : isLetR r = true ↔ (97 ≤ r ∧ r ≤ 122) ∨ (65 ≤ r ∧ r ≤ 90) := by unfold isLetR; simp
theorem word_cases {r : Int} (h : isWordR r = true) : isLetR r = true ∨ isDigR r = true ∨ r = 95 := by
  unfold isWordR at h
  simp only [Bool.or_eq_true, beq_iff_eq] at h
  rcases h with (h | h) | h
  · exact .inl h
  · exact .inr (.inl h)
  · exact .inr (.inr h)
theorem dig_le (s : ByteArray) : lb isDigR s 0 ≤ lb isWordR s 0 := by
  have h1 := lb_led isDigR s 0 (Nat.zero_le _)
  have h2 := lb_led isWordR s 0 (Nat.zero_le _)
  rcases Nat.lt_or_ge (lb isWordR s 0) (lb isDigR s 0) with h | h
  · have k1 := h2.stop (by have := h1.le; omega)
    have k2 := h1.all _ (Nat.zero_le _) h
    rw [dig_word k2] at k1
    cases k1
  · exact h
theorem digOf_run (s : ByteArray) : digOf (runOf s) = s.extract 0 (lb isDigR s 0) := by
  have hR := (lb_led isWordR s 0 (Nat.zero_le _)).le
  have hD := dig_le s
  have h1 := lb_led isDigR s 0 (Nat.zero_le _)
  unfold digOf
  rw [ledP_lb asc_digit, runOf_lb]
  have hz : (s.extract 0 (lb isWordR s 0)).size = lb isWordR s 0 := by rw [size_extract s 0 _ hR]; omega
  have he : lb isDigR (s.extract 0 (lb isWordR s 0)) 0 = lb isDigR s 0 := by
    refine (lb_led isDigR _ 0 (Nat.zero_le _)).unique ⟨Nat.zero_le _, by omega, fun i hi hi2 => ?_, fun hlt => ?_⟩
    · rw [byteI_extract s 0 _ i hR (by omega), Nat.zero_add]
      exact h1.all i hi hi2
    · rw [byteI_extract s 0 _ _ hR (by omega), Nat.zero_add]
      exact h1.stop (by omega)
  rw [he]
  apply ByteArray.ext
  simp only [ByteArray.data_extract]
  rw [Array.extract_extract]
  congr 1
  omega
theorem ext_nil (s : ByteArray) (n : Nat) (h : n = 0) : (s.extract 0 n).toList = [] := by
  subst h
  have : (s.extract 0 0).size = 0 := by rw [size_extract s 0 0 (Nat.zero_le _)]
  rw [← List.length_eq_zero_iff]
  rw [Lib.toList_data]
  simp
theorem toList_nil (t : ByteArray) : t.toList = [] ↔ t.size = 0 := by
  rw [Lib.toList_data, ← List.length_eq_zero_iff]
  simp
theorem byte_at0 {t : ByteArray} (h : 0 < t.size) (c : Int) : (((t[0]'h).toNat : Int) == c) = decide (byteI t 0 = c) := by
  rw [byteI_at h]
  rw [Bool.eq_iff_iff]
  simp

/-! The number. -/
def Digs (l : List UInt8) : Prop := ∀ c, c ∈ l → 48 ≤ c.toNat ∧ c.toNat ≤ 57
theorem decV_ge : ∀ (l : List UInt8) (acc : Nat), acc ≤ decV l acc
  | [], acc => Nat.le_refl _
  | c :: r, acc => by have := decV_ge r (acc * 10 + (c.toNat - 48)); show acc ≤ decV r _; omega
theorem parseM {l : List UInt8} (h : Digs l) : ∀ acc : Nat, acc ≤ 18446744073709551615 → Lib.parseUintM 18446744073709551615 acc l = if 18446744073709551615 < decV l acc then .range else .ok (decV l acc) := by
  induction l with
  | nil => intro acc ha; show Lib.NumEnd.ok acc = _; rw [if_neg (by show ¬ _ < acc; omega)]; rfl
  | cons c r ih =>
    intro acc ha
    have hc := h c (by simp)
    have hge := decV_ge r (acc * 10 + (c.toNat - 48))
    rw [Lib.parseUintM, if_pos hc]
    by_cases h1 : 1844674407370955162 ≤ acc
    · rw [if_pos h1, if_pos]
      show _ < decV r _
      omega
    · rw [if_neg h1]
      by_cases h2 : 18446744073709551615 < acc * 10 + (c.toNat - 48)
      · rw [if_pos h2, if_pos]
        show _ < decV r _
        omega
      · rw [if_neg h2, ih (fun d hd => h d (by simp [hd])) _ (by omega)]
        rfl
theorem parseV {l : List UInt8} (h : Digs l) (hne : l ≠ []) : Lib.parseIntB 64 l = if 9223372036854775807 < decV l 0 then .range else .ok (decV l 0 : Int) := by
  match l, hne with
  | c :: r, _ =>
    have hc := h c (by simp)
    rw [Lib.parseIntB_plain 64 c r (by omega) (by omega)]
    unfold Lib.parseUintB
    rw [if_neg (by simp), show (2 ^ 64 - 1 : Nat) = 18446744073709551615 from by decide, parseM h 0 (by omega)]
    by_cases h1 : 18446744073709551615 < decV (c :: r) 0
    · rw [if_pos h1, if_pos (by omega)]; rfl
    · rw [if_neg h1]
      by_cases h2 : 9223372036854775807 < decV (c :: r) 0
      · rw [if_pos h2]
        show (if (2 ^ (64 - 1) : Nat) ≤ _ then _ else _) = _
        rw [if_pos (by omega)]
      · rw [if_neg h2]
        show (if (2 ^ (64 - 1) : Nat) ≤ _ then _ else _) = _
        rw [if_neg (by omega)]
theorem digs_lb (s : ByteArray) : Digs (s.extract 0 (lb isDigR s 0)).data.toList := fun c hc => by
  have h1 := lb_led isDigR s 0 (Nat.zero_le _)
  obtain ⟨i, hi, rfl⟩ := List.mem_iff_getElem.mp hc
  have hz : (s.extract 0 (lb isDigR s 0)).size = lb isDigR s 0 := by rw [size_extract s 0 _ h1.le]; omega
  have hi' : i < (s.extract 0 (lb isDigR s 0)).size := by simpa using hi
  have := h1.all i (Nat.zero_le _) (by omega)
  rw [← Nat.zero_add i, ← byteI_extract s 0 _ i h1.le (by omega), byteI_at hi'] at this
  have := (dig_iff _).mp this
  have e : (s.extract 0 (lb isDigR s 0)).data.toList[i] = (s.extract 0 (lb isDigR s 0))[i]'hi' := rfl
  rw [e]
  constructor
  · have := this.1; omega
  · have := this.2; omega

/-! The marks. -/
theorem pref1 (s : ByteArray) (c : UInt8) (hc : c.toNat ≠ 0) : Lib.hasPrefix s.data.toList [c] = decide (byteI s 0 = (c.toNat : Int)) := by
  unfold Lib.hasPrefix byteI
  cases h : s.data.toList with
  | nil => simp [List.isPrefixOf]; omega
  | cons a r =>
    rw [Bool.eq_iff_iff]
    simp [List.isPrefixOf]
    constructor
    · rintro rfl; rfl
    · intro h; exact (UInt8.toNat_inj.mp (by omega)).symm
theorem pref2 (s : ByteArray) (c d : UInt8) (hc : c.toNat ≠ 0) (hd : d.toNat ≠ 0) : Lib.hasPrefix s.data.toList [c, d] = decide (byteI s 0 = (c.toNat : Int) ∧ byteI s 1 = (d.toNat : Int)) := by
  unfold Lib.hasPrefix byteI
  cases h : s.data.toList with
  | nil => simp [List.isPrefixOf]; omega
  | cons a r =>
    cases r with
    | nil => simp [List.isPrefixOf]; omega
    | cons b r =>
      rw [Bool.eq_iff_iff]
      simp [List.isPrefixOf]
      constructor
      · rintro ⟨rfl, rfl⟩; exact ⟨rfl, rfl⟩
      · rintro ⟨h1, h2⟩; exact ⟨(UInt8.toNat_inj.mp (by omega)).symm, (UInt8.toNat_inj.mp (by omega)).symm⟩
theorem prefix_take {s p : ByteArray} (h : Lib.hasPrefix s.data.toList p.data.toList = true) : s.extract 0 p.size = p := by
  unfold Lib.hasPrefix at h
  rw [List.isPrefixOf_iff_prefix] at h
  apply ByteArray.ext
  apply Array.toList_inj.mp
  have := List.prefix_iff_eq_take.mp h
  simp only [ByteArray.data_extract, Array.toList_extract]
  rw [this]
  simp
theorem pref_at0 (s : ByteArray) : pref s 0 = decide (byteI s 0 = 58 ∧ byteI s 1 = 58) := pref2 s 58 58 (by decide) (by decide)
theorem pref_at1 (s : ByteArray) : pref s 1 = decide (byteI s 0 = 61 ∧ byteI s 1 = 61) := pref2 s 61 61 (by decide) (by decide)
theorem pref_at2 (s : ByteArray) : pref s 2 = decide (byteI s 0 = 58) := pref1 s 58 (by decide)
theorem pref_at3 (s : ByteArray) : pref s 3 = decide (byteI s 0 = 123) := pref1 s 123 (by decide)
theorem pref_at4 (s : ByteArray) : pref s 4 = decide (byteI s 0 = 125) := pref1 s 125 (by decide)
theorem pref_at5 (s : ByteArray) : pref s 5 = decide (byteI s 0 = 40) := pref1 s 40 (by decide)
theorem pref_at6 (s : ByteArray) : pref s 6 = decide (byteI s 0 = 41) := pref1 s 41 (by decide)
theorem pref_at7 (s : ByteArray) : pref s 7 = decide (byteI s 0 = 59) := pref1 s 59 (by decide)
theorem pref_at8 (s : ByteArray) : pref s 8 = decide (byteI s 0 = 44) := pref1 s 44 (by decide)
theorem pref_at9 (s : ByteArray) : pref s 9 = decide (byteI s 0 = 46) := pref1 s 46 (by decide)
theorem pref_at10 (s : ByteArray) : pref s 10 = decide (byteI s 0 = 61) := pref1 s 61 (by decide)
theorem pref_at11 (s : ByteArray) : pref s 11 = decide (byteI s 0 = 60) := pref1 s 60 (by decide)
theorem pref_at12 (s : ByteArray) : pref s 12 = decide (byteI s 0 = 43) := pref1 s 43 (by decide)
theorem pref_at13 (s : ByteArray) : pref s 13 = decide (byteI s 0 = 45) := pref1 s 45 (by decide)
theorem pref_at14 (s : ByteArray) : pref s 14 = decide (byteI s 0 = 42) := pref1 s 42 (by decide)
theorem mark_len (s : ByteArray) (j : Nat) (hj : j < 15) (hn : ∀ i, i < j → pref s i = false) (hp : pref s j = true) : markLen s = (marksB.getD j ⟨#[]⟩).size := by
  have n0 := fun h => hn 0 h
  have n1 := fun h => hn 1 h
  rw [pref_at0] at n0
  rw [pref_at1] at n1
  unfold markLen
  match j, hj with
  | 0, _ => rw [pref_at0] at hp; simp only [decide_eq_true_eq] at hp; rw [if_pos hp.1, if_pos hp.2]; rfl
  | 1, _ => rw [pref_at1] at hp; simp only [decide_eq_true_eq] at hp; rw [if_neg (by omega), if_pos hp.1, if_pos hp.2]; rfl
  | 2, _ => rw [pref_at2] at hp; simp only [decide_eq_true_eq] at hp; have := n0 (by omega); simp only [decide_eq_false_iff_not] at this; rw [if_pos hp, if_neg (by omega)]; rfl
  | 3, _ => rw [pref_at3] at hp; simp only [decide_eq_true_eq] at hp; rw [if_neg (by omega), if_neg (by omega), if_pos (by omega)]; rfl
  | 4, _ => rw [pref_at4] at hp; simp only [decide_eq_true_eq] at hp; rw [if_neg (by omega), if_neg (by omega), if_pos (by omega)]; rfl
  | 5, _ => rw [pref_at5] at hp; simp only [decide_eq_true_eq] at hp; rw [if_neg (by omega), if_neg (by omega), if_pos (by omega)]; rfl
  | 6, _ => rw [pref_at6] at hp; simp only [decide_eq_true_eq] at hp; rw [if_neg (by omega), if_neg (by omega), if_pos (by omega)]; rfl
  | 7, _ => rw [pref_at7] at hp; simp only [decide_eq_true_eq] at hp; rw [if_neg (by omega), if_neg (by omega), if_pos (by omega)]; rfl
  | 8, _ => rw [pref_at8] at hp; simp only [decide_eq_true_eq] at hp; rw [if_neg (by omega), if_neg (by omega), if_pos (by omega)]; rfl
  | 9, _ => rw [pref_at9] at hp; simp only [decide_eq_true_eq] at hp; rw [if_neg (by omega), if_neg (by omega), if_pos (by omega)]; rfl
  | 10, _ => rw [pref_at10] at hp; simp only [decide_eq_true_eq] at hp; have := n1 (by omega); simp only [decide_eq_false_iff_not] at this; rw [if_neg (by omega), if_pos hp, if_neg (by omega)]; rfl
  | 11, _ => rw [pref_at11] at hp; simp only [decide_eq_true_eq] at hp; rw [if_neg (by omega), if_neg (by omega), if_pos (by omega)]; rfl
  | 12, _ => rw [pref_at12] at hp; simp only [decide_eq_true_eq] at hp; rw [if_neg (by omega), if_neg (by omega), if_pos (by omega)]; rfl
  | 13, _ => rw [pref_at13] at hp; simp only [decide_eq_true_eq] at hp; rw [if_neg (by omega), if_neg (by omega), if_pos (by omega)]; rfl
  | 14, _ => rw [pref_at14] at hp; simp only [decide_eq_true_eq] at hp; rw [if_neg (by omega), if_neg (by omega), if_pos (by omega)]; rfl
theorem mark_pos (j : Nat) (hj : j < 15) : (marksB.getD j ⟨#[]⟩).size ≠ 0 := by
  revert j; decide
theorem mark_none (s : ByteArray) (hn : ∀ i, i < 15 → pref s i = false) : markLen s = 0 := by
  have h2 := hn 2 (by decide)
  have h3 := hn 3 (by decide)
  have h4 := hn 4 (by decide)
  have h5 := hn 5 (by decide)
  have h6 := hn 6 (by decide)
  have h7 := hn 7 (by decide)
  have h8 := hn 8 (by decide)
  have h9 := hn 9 (by decide)
  have h10 := hn 10 (by decide)
  have h11 := hn 11 (by decide)
  have h12 := hn 12 (by decide)
  have h13 := hn 13 (by decide)
  have h14 := hn 14 (by decide)
  rw [pref_at2] at h2
  rw [pref_at3] at h3
  rw [pref_at4] at h4
  rw [pref_at5] at h5
  rw [pref_at6] at h6
  rw [pref_at7] at h7
  rw [pref_at8] at h8
  rw [pref_at9] at h9
  rw [pref_at10] at h10
  rw [pref_at11] at h11
  rw [pref_at12] at h12
  rw [pref_at13] at h13
  rw [pref_at14] at h14
  simp only [decide_eq_false_iff_not] at h2 h3 h4 h5 h6 h7 h8 h9 h10 h11 h12 h13 h14
  unfold markLen
  rw [if_neg h2, if_neg h10, if_neg (by omega)]
theorem isKwd_iff (s : ByteArray) : isKwd s = true ↔ ∃ j, j < 17 ∧ isKw s j = true := by
  unfold isKwd
  simp
theorem isKwd_not {s : ByteArray} (h : ∀ j, j < 17 → isKw s j = false) : isKwd s = false := by
  cases hk : isKwd s with
  | false => rfl
  | true => obtain ⟨j, h1, h2⟩ := (isKwd_iff s).mp hk; rw [h j h1] at h2; cases h2
end Go.Proofs.YtmnfonhfbolnkaaDoor
