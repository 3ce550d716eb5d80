/-
  Identifiers and keywords in plain words; how the tokens of a given text are reckoned.
-/
import Derived.Test.YtmnfonhfbolnkaaDoorTok
namespace Go.Proofs.YtmnfonhfbolnkaaDoor
open Go.RowKit
set_option linter.unusedVariables false

/-! Reckoning. -/
def lbN (p : Int → Bool) (s : ByteArray) : Nat → Nat → Nat
  | 0, pos => pos
  | b + 1, pos => if pos < s.size then (if p (byteI s pos) = true then lbN p s b (pos + 1) else pos) else pos
theorem lbN_eq (p : Int → Bool) (s : ByteArray) : ∀ (b pos : Nat), s.size ≤ pos + b → lbN p s b pos = lb p s pos
  | 0, pos, h => by rw [lb, if_neg (by omega)]; rfl
  | b + 1, pos, h => by
    rw [lb, lbN]
    by_cases h1 : pos < s.size
    · rw [if_pos h1, if_pos h1, lbN_eq p s b (pos + 1) (by omega)]
    · rw [if_neg h1, if_neg h1]
def skpN (s : ByteArray) : Nat → Nat → Nat
  | 0, pos => pos
  | b + 1, pos =>
    if pos < s.size then
      (if isSpcR (byteI s pos) = true then skpN s b (pos + 1)
       else if byteI s pos = 47 ∧ byteI s (pos + 1) = 47 then skpN s b (max (pos + 1) (lbN isLineR s s.size pos))
       else pos)
    else pos
theorem skpN_eq (s : ByteArray) : ∀ (b pos : Nat), s.size ≤ pos + b → skpN s b pos = skp s pos
  | 0, pos, h => by rw [skp, if_neg (by omega)]; rfl
  | b + 1, pos, h => by
    rw [skp, skpN]
    by_cases h1 : pos < s.size
    · rw [if_pos h1, if_pos h1, lbN_eq isLineR s s.size pos (by omega), skpN_eq s b (pos + 1) (by omega), skpN_eq s b (max (pos + 1) (lb isLineR s pos)) (by omega)]
    · rw [if_neg h1, if_neg h1]
def oneG (wl dl : Nat) (u : ByteArray) : One :=
  if isLetR (byteI u 0) = true then
    (if 32 < wl then ⟨0, ⟨#[]⟩, 0, 3⟩ else if isKwd (u.extract 0 wl) = true then ⟨2, u.extract 0 wl, 0, 0⟩ else ⟨1, u.extract 0 wl, 0, 0⟩)
  else if isDigR (byteI u 0) = true then
    (if wl ≠ dl ∨ byteI u 0 = 48 ∧ 1 < dl then ⟨0, ⟨#[]⟩, 0, 2⟩
     else if 9223372036854775807 < decV (u.extract 0 dl).data.toList 0 then ⟨0, ⟨#[]⟩, 0, 4⟩
     else ⟨3, u.extract 0 dl, (decV (u.extract 0 dl).data.toList 0 : Int), 0⟩)
  else if markLen u = 0 then ⟨0, ⟨#[]⟩, 0, 2⟩ else ⟨4, u.extract 0 (markLen u), 0, 0⟩
theorem oneG_eq (u : ByteArray) : oneF u = oneG (lb isWordR u 0) (lb isDigR u 0) u := rfl
def oneN (u : ByteArray) : One := oneG (lbN isWordR u u.size 0) (lbN isDigR u u.size 0) u
theorem oneN_eq (u : ByteArray) : oneN u = oneF u := by
  unfold oneN
  rw [lbN_eq _ _ _ _ (by omega), lbN_eq _ _ _ _ (by omega)]
  exact (oneG_eq u).symm
def toksN (s : ByteArray) : Nat → Nat → List Tok → Whole
  | 0, _, out => ⟨out ++ [⟨5, s.size, ⟨#[]⟩, 0⟩], 0, 0⟩
  | b + 1, pos, out =>
    if skpN s s.size pos < s.size then
      (if (oneN (s.extract (skpN s s.size pos) s.size)).e = 0 then
        toksN s b (skpN s s.size pos + (oneN (s.extract (skpN s s.size pos) s.size)).t.size) (out ++ [⟨(oneN (s.extract (skpN s s.size pos) s.size)).k, skpN s s.size pos, (oneN (s.extract (skpN s s.size pos) s.size)).t, (oneN (s.extract (skpN s s.size pos) s.size)).n⟩])
       else ⟨[], skpN s s.size pos, (oneN (s.extract (skpN s s.size pos) s.size)).e⟩)
    else ⟨out ++ [⟨5, s.size, ⟨#[]⟩, 0⟩], 0, 0⟩
theorem toksN_eq (s : ByteArray) : ∀ (b pos : Nat) (out : List Tok), toksN s b pos out = toksF s b pos out
  | 0, pos, out => rfl
  | b + 1, pos, out => by
    rw [toksN, toksF, skpN_eq s s.size pos (by omega), oneN_eq, toksN_eq s b]

/-! Words. -/
def isW (s : ByteArray) (kind : Int) : Bool := (oneF s).e == 0 && (oneF s).k == kind && (oneF s).t.toList == s.toList
theorem bytes_eq {a b : ByteArray} (h : a.toList = b.toList) : a = b := by
  apply ByteArray.ext
  apply Array.toList_inj.mp
  rw [← Lib.toList_data, ← Lib.toList_data, h]
theorem isW_iff (s : ByteArray) (kind : Int) : isW s kind = true ↔ (oneF s).e = 0 ∧ (oneF s).k = kind ∧ (oneF s).t = s := by
  unfold isW
  simp only [Bool.and_eq_true, beq_iff_eq]
  constructor
  · rintro ⟨⟨h1, h2⟩, h3⟩; exact ⟨h1, h2, bytes_eq h3⟩
  · rintro ⟨h1, h2, h3⟩; exact ⟨⟨h1, h2⟩, by rw [h3]⟩
theorem ext_full (s : ByteArray) : s.extract 0 s.size = s := by
  apply ByteArray.ext
  simp only [ByteArray.data_extract]
  exact Array.extract_size
theorem word_one {s : ByteArray} (hl : isLetR (byteI s 0) = true) (h32 : s.size ≤ 32) (hw : lb isWordR s 0 = s.size) : oneF s = ⟨if isKwd s = true then 2 else 1, s, 0, 0⟩ := by
  rw [one_word s hl, hw, if_neg (by omega), ext_full]
  by_cases hk : isKwd s = true
  · rw [if_pos hk, if_pos hk]
  · rw [if_neg hk, if_neg hk]
theorem isW_word {s : ByteArray} {kind : Int} (hk : kind = 1 ∨ kind = 2) : isW s kind = true ↔ isLetR (byteI s 0) = true ∧ s.size ≤ 32 ∧ lb isWordR s 0 = s.size ∧ (kind = 2 ↔ isKwd s = true) := by
  rw [isW_iff]
  constructor
  · rintro ⟨he, hkk, ht⟩
    by_cases hl : isLetR (byteI s 0) = true
    · have ho := one_word s hl
      have hle := (lb_led isWordR s 0 (Nat.zero_le _)).le
      by_cases h32 : 32 < lb isWordR s 0
      · rw [if_pos h32] at ho; rw [ho] at he; exact absurd he (by decide)
      · rw [if_neg h32] at ho
        have hsz : ∀ k : Int, oneF s = ⟨k, s.extract 0 (lb isWordR s 0), 0, 0⟩ → lb isWordR s 0 = s.size := fun k h => by
          rw [h] at ht
          have := congrArg ByteArray.size ht
          rw [size_extract s 0 _ hle] at this
          simpa using this
        by_cases hkw : isKwd (s.extract 0 (lb isWordR s 0)) = true
        · rw [if_pos hkw] at ho
          have e := hsz 2 ho
          rw [e, ext_full] at hkw
          rw [ho] at hkk
          exact ⟨hl, by omega, e, fun _ => hkw, fun _ => hkk.symm⟩
        · rw [if_neg hkw] at ho
          have e := hsz 1 ho
          rw [e, ext_full] at hkw
          rw [ho] at hkk
          exact ⟨hl, by omega, e, fun h => by rw [h] at hkk; exact absurd (show (1 : Int) = 2 from hkk) (by decide), fun h => absurd h hkw⟩
    · exfalso
      unfold oneF at hkk
      rw [if_neg hl] at hkk
      repeat' split at hkk
      all_goals (simp only at hkk; omega)
  · rintro ⟨hl, h32, hw, hkw⟩
    rw [word_one hl h32 hw]
    refine ⟨rfl, ?_, rfl⟩
    show (if isKwd s = true then (2 : Int) else 1) = kind
    by_cases h : isKwd s = true
    · rw [if_pos h]; exact (hkw.mpr h).symm
    · rw [if_neg h]
      rcases hk with h1 | h1
      · exact h1.symm
      · exact absurd (hkw.mp h1) h
theorem kw_word (s : ByteArray) (h : isKwd s = true) : isLetR (byteI s 0) = true ∧ s.size ≤ 32 ∧ lb isWordR s 0 = s.size := by
  obtain ⟨j, hj, hk⟩ := (isKwd_iff s).mp h
  have hs : s = kwB.getD j ⟨#[]⟩ := by
    unfold isKw at hk
    have := beq_iff_eq.mp hk
    apply bytes_eq
    rw [this, Lib.toList_data]
  have key : ∀ j, j < 17 → isLetR (byteI (kwB.getD j ⟨#[]⟩) 0) = true ∧ (kwB.getD j ⟨#[]⟩).size ≤ 32 ∧ lbN isWordR (kwB.getD j ⟨#[]⟩) (kwB.getD j ⟨#[]⟩).size 0 = (kwB.getD j ⟨#[]⟩).size := by decide +kernel
  have := key j hj
  rw [lbN_eq _ _ _ _ (by omega), ← hs] at this
  exact this
theorem isW_key (s : ByteArray) : isW s 2 = isKwd s := by
  rw [Bool.eq_iff_iff, isW_word (.inr rfl)]
  exact ⟨fun h => h.2.2.2.mp rfl, fun h => ⟨(kw_word s h).1, (kw_word s h).2.1, (kw_word s h).2.2, fun _ => h, fun _ => rfl⟩⟩
/-- What an identifier is. -/
theorem isW_ident (s : ByteArray) : isW s 1 = true ↔ 0 < s.size ∧ s.size ≤ 32 ∧ isLetR (byteI s 0) = true ∧ isKwd s = false ∧ ∀ i, i < s.size → isWordR (byteI s i) = true := by
  rw [isW_word (.inl rfl)]
  constructor
  · rintro ⟨hl, h32, hw, hk⟩
    refine ⟨?_, h32, hl, ?_, fun i hi => ?_⟩
    · rcases Nat.eq_zero_or_pos s.size with e | e
      · rw [byteI_out (by omega)] at hl; exact absurd hl (by decide)
      · exact e
    · cases h : isKwd s with
      | false => rfl
      | true => exact absurd (hk.mpr h) (by decide)
    · exact (lb_led isWordR s 0 (Nat.zero_le _)).all i (Nat.zero_le _) (by omega)
  · rintro ⟨h0, h32, hl, hk, ha⟩
    refine ⟨hl, h32, (lb_led isWordR s 0 (Nat.zero_le _)).unique ⟨Nat.zero_le _, Nat.le_refl _, fun i _ hi => ha i hi, fun h => absurd h (Nat.lt_irrefl _)⟩, fun h => absurd h (by decide), fun h => by rw [hk] at h; cases h⟩
end Go.Proofs.YtmnfonhfbolnkaaDoor
