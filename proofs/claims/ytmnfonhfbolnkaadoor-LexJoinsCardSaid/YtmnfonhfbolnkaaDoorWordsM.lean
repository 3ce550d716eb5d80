/-
  A text is a word exactly if it is a single token of this kind; the chain of the tokens.
-/
import Derived.Test.YtmnfonhfbolnkaaDoorLawTok
namespace Go.Proofs.YtmnfonhfbolnkaaDoor
open Go.RowKit
set_option linter.unusedVariables false

theorem toksF_pre (s : ByteArray) : ∀ (b pos : Nat) (out : List Tok), (toksF s b pos out).e = 0 → ∃ l, (toksF s b pos out).l = out ++ l
  | 0, pos, out, _ => ⟨_, rfl⟩
  | b + 1, pos, out, h => by
    obtain ⟨q, hq⟩ : ∃ q, skp s pos = q := ⟨_, rfl⟩
    by_cases hlt : q < s.size
    · obtain ⟨o, ho⟩ : ∃ o, oneF (s.extract q s.size) = o := ⟨_, rfl⟩
      by_cases he : o.e = 0
      · rw [toksF_tok hq hlt ho he] at h ⊢
        obtain ⟨l, hl⟩ := toksF_pre s b _ _ h
        exact ⟨_, by rw [hl, List.append_assoc]⟩
      · rw [toksF_err hq hlt ho he] at h
        exact absurd h he
    · rw [toksF_end (by omega)]
      exact ⟨_, rfl⟩
theorem letter_stop {s : ByteArray} {p : Nat} (hl : isLetR (byteI s p) = true) : skp s p = p := by
  have h := (let_iff _).mp hl
  refine skp_stop ?_ (by omega)
  unfold isSpcR
  simp
  omega
theorem words_iff (s : ByteArray) (kind : Int) (hk : kind = 1 ∨ kind = 2) : isW s kind = true ↔ (whole s).e = 0 ∧ (whole s).l.length = 2 ∧ ((whole s).l.getD 0 tokD).t = s ∧ ((whole s).l.getD 0 tokD).k = kind := by
  have hful : s.extract 0 s.size = s := ext_full s
  constructor
  · intro h
    obtain ⟨hl, h32, hw, hkk⟩ := (isW_word hk).mp h
    have ho := word_one hl h32 hw
    have h0 := letter_stop hl
    have hs0 : 0 < s.size := by
      rcases Nat.eq_zero_or_pos s.size with e | e
      · rw [byteI_out (by omega)] at hl; exact absurd hl (by decide)
      · exact e
    unfold whole
    rw [if_neg (by omega)]
    have ho2 : oneF (s.extract 0 s.size) = ⟨if isKwd s = true then 2 else 1, s, 0, 0⟩ := by rw [hful]; exact ho
    rw [toksF_tok h0 hs0 ho2 rfl]
    show (toksF s s.size (0 + s.size) _).e = 0 ∧ _
    rw [toksF_end (by rw [Nat.zero_add, skp_end (Nat.lt_irrefl _)]; exact Nat.lt_irrefl _)]
    refine ⟨rfl, rfl, rfl, ?_⟩
    show (if isKwd s = true then (2 : Int) else 1) = kind
    have := (isW_iff s kind).mp h
    rw [ho] at this
    exact this.2.1
  · rintro ⟨he, hlen, ht, hkk⟩
    unfold whole at he hlen ht hkk
    by_cases hbig : 65536 < s.size
    · rw [if_pos hbig] at he
      exact absurd he (by decide)
    · rw [if_neg hbig] at he hlen ht hkk
      obtain ⟨q, hq⟩ : ∃ q, skp s 0 = q := ⟨_, rfl⟩
      have hqg := skp_ge s 0 (Nat.zero_le _)
      rw [hq] at hqg
      by_cases hlt : q < s.size
      · obtain ⟨o, ho⟩ : ∃ o, oneF (s.extract q s.size) = o := ⟨_, rfl⟩
        by_cases hoe : o.e = 0
        · have hok := one_ok ho hoe
          rw [size_extract s q _ (Nat.le_refl _)] at hok
          rw [toksF_tok hq hlt ho hoe] at he hlen ht hkk
          obtain ⟨l, hl⟩ := toksF_pre s _ _ _ he
          rw [hl] at ht hkk
          have ht' : o.t = s := ht
          have hk' : o.k = kind := hkk
          have hsz := congrArg ByteArray.size ht'
          obtain rfl : q = 0 := by omega
          rw [hful] at ho
          exact (isW_iff s kind).mpr (by rw [ho]; exact ⟨hoe, hk', ht'⟩)
        · rw [toksF_err hq hlt ho hoe] at he
          exact absurd he hoe
      · rw [toksF_end (by omega)] at hlen
        exact absurd hlen (by simp)
theorem words_no {s : ByteArray} {r : Whole} (hr : whole s = r) (kind : Int) (hk : kind = 1 ∨ kind = 2) (h : ¬ (r.e = 0 ∧ r.l.length = 2 ∧ (r.l.getD 0 tokD).t = s)) : isW s kind = false := by
  subst hr
  cases hw : isW s kind with
  | false => rfl
  | true =>
    have := (words_iff s kind hk).mp hw
    exact absurd ⟨this.1, this.2.1, this.2.2.1⟩ h
theorem words_yes {s : ByteArray} {r : Whole} (hr : whole s = r) (kind : Int) (hk : kind = 1 ∨ kind = 2) (he : r.e = 0) (hl : r.l.length = 2) (ht : (r.l.getD 0 tokD).t = s) : isW s kind = ((r.l.getD 0 tokD).k == kind) := by
  subst hr
  rw [Bool.eq_iff_iff, words_iff s kind hk, beq_iff_eq]
  exact ⟨fun h => h.2.2.2, fun h => ⟨he, hl, ht, h⟩⟩
end Go.Proofs.YtmnfonhfbolnkaaDoor
