/-
  The definition's number is the token of the digits.
-/
import Derived.Test.YtmnfonhfbolnkaaDoorRNumW
namespace Go.Proofs.YtmnfonhfbolnkaaDoor
open Go.RowKit
set_option linter.unusedVariables false

/-- The definition's answer for the token at a. -/
def ansA (o : One) (a : Nat) : Value := .tuple #[tokA o.k (if o.e = 0 then a else 0) o.t o.n, .int .i64 o.e]
theorem ext_suf (s : ByteArray) (a L : Nat) (h : a + L ≤ s.size) : (s.extract a s.size).extract 0 L = s.extract a (a + L) := by
  apply ByteArray.ext
  simp only [ByteArray.data_extract]
  rw [Array.extract_extract]
  congr 1
  have : s.data.size = s.size := rfl
  omega
theorem lb_eq (p : Int → Bool) (s : ByteArray) (a b : Nat) (ha : a ≤ s.size) (hb : lb p s a = b) : lb p (s.extract a s.size) 0 = b - a ∧ a ≤ b ∧ b ≤ s.size := by
  have h1 := lb_suf p s a ha
  have h2 := lb_led p s a ha
  rw [hb] at h1 h2
  exact ⟨by omega, h2.ge, h2.le⟩
theorem same_end (s : ByteArray) (a b : Nat) (ha : a ≤ s.size) (hb : lb isDigR s a = b) : lb isWordR s a = b ↔ ¬ (b < s.size ∧ isWordR (byteI s b) = true) := by
  have hd := lb_led isDigR s a ha
  have hw := lb_led isWordR s a ha
  rw [hb] at hd
  constructor
  · rintro h ⟨h1, h2⟩
    rw [h] at hw
    rw [hw.stop h1] at h2
    cases h2
  · intro h
    refine hw.unique ⟨hd.ge, hd.le, fun i h1 h2 => dig_word (hd.all i h1 h2), fun h1 => ?_⟩
    cases h2 : isWordR (byteI s b) with
    | false => rfl
    | true => exact absurd ⟨h1, h2⟩ h
theorem rnum_any (s : ByteArray) (a b : Nat) (hb : lb isDigR s a = b) (ha : a < s.size) (hs : s.size ≤ 65536) (hl : ¬ isLetR (byteI s a) = true) (hd : isDigR (byteI s a) = true) (o : One) (ho : oneF (s.extract a s.size) = o) (w : World) :
    Calls Tryd.prog 42 #[.string s, .int .i64 a, .int .i64 b] w fun e w' => Below w.heap.size w w' ∧ e = .returned (ansA o a) := by
  subst ho
  obtain ⟨h1, h2, h3⟩ := lb_eq isDigR s a b (Nat.le_of_lt ha) hb
  have hled := lb_led isDigR s a (Nat.le_of_lt ha)
  rw [hb] at hled
  have hab : a < b := by
    rcases Nat.eq_or_lt_of_le h2 with e | e
    · have := hled.stop (by omega)
      rw [← e, hd] at this; cases this
    · exact e
  have h0 : byteI (s.extract a s.size) 0 = byteI s a := byteI_suf s a 0
  have hse := same_end s a b (Nat.le_of_lt ha) hb
  have hws := lb_suf isWordR s a (Nat.le_of_lt ha)
  have hone : oneF (s.extract a s.size) = (if (b < s.size ∧ isWordR (byteI s b) = true) ∨ byteI s a = 48 ∧ a + 1 < b then ⟨0, ⟨#[]⟩, 0, 2⟩
     else if 9223372036854775807 < decTo s a (b - a) then ⟨0, ⟨#[]⟩, 0, 4⟩
     else ⟨3, s.extract a b, (decTo s a (b - a) : Int), 0⟩) := by
    unfold oneF
    rw [h0, if_neg hl, if_pos hd, h1, ext_suf s a (b - a) (by omega), decTo_V s a (b - a) (by omega), show a + (b - a) = b from by omega]
    by_cases hx : (b < s.size ∧ isWordR (byteI s b) = true) ∨ byteI s a = 48 ∧ a + 1 < b
    · rw [if_pos hx, if_pos]
      rcases hx with hx | hx
      · left
        intro e
        exact hse.mp (by omega) hx
      · right
        exact ⟨hx.1, by omega⟩
    · rw [if_neg hx, if_neg]
      rintro (hx2 | hx2)
      · have := hse.mpr (fun h => hx (.inl h))
        omega
      · exact hx (.inr ⟨hx2.1, by omega⟩)
  obtain ⟨c, hc⟩ : ∃ c : Nat, (s[a]'ha).toNat = c := ⟨_, rfl⟩
  have hca : byteI s a = (c : Int) := by rw [byteI_at ha, hc]
  have hlast : ∀ (hh : ¬ ((b < s.size ∧ isWordR (byteI s b) = true) ∨ byteI s a = 48 ∧ a + 1 < b)) e w', NumV s a b w e w' → Below w.heap.size w w' ∧ e = .returned (ansA (oneF (s.extract a s.size)) a) := by
    rintro hh e w' ⟨hbel, ⟨hx, rfl⟩ | ⟨hx, rfl⟩⟩
    · rw [hone, if_neg hh, if_pos hx]; exact ⟨hbel, rfl⟩
    · rw [hone, if_neg hh, if_neg hx]; exact ⟨hbel, rfl⟩
  have hsyn : ∀ (hh : (b < s.size ∧ isWordR (byteI s b) = true) ∨ byteI s a = 48 ∧ a + 1 < b) e w', NumA 0 0 ⟨#[]⟩ 0 2 w e w' → Below w.heap.size w w' ∧ e = .returned (ansA (oneF (s.extract a s.size)) a) := by
    rintro hh e w' ⟨hbel, rfl⟩
    rw [hone, if_pos hh]; exact ⟨hbel, rfl⟩
  have hall := fun i h1 h2 => hled.all i h1 h2
  by_cases h48 : c = 48
  · have e48 : ((c : Int) == 48) = true := by simp; omega
    by_cases hgt : a + 1 < b
    · exact (rnum_zero s a b hab h3 hs c hc e48 hgt w).mono (hsyn (.inr ⟨by omega, hgt⟩))
    · by_cases hbl : b < s.size
      · obtain ⟨d, hdd⟩ : ∃ d : Nat, (s[b]'hbl).toNat = d := ⟨_, rfl⟩
        have hdb : byteI s b = (d : Int) := by rw [byteI_at hbl, hdd]
        cases hw : isWordR (d : Int) with
        | true => exact (rnum_more2 s a b hab h3 hs c hc e48 hgt hbl d hdd hw w).mono (hsyn (.inl ⟨hbl, by rw [hdb]; exact hw⟩))
        | false => exact (rnum_valw2 s a b hab h3 hs c hc e48 hgt hbl d hdd hw hall w).mono (hlast (by rw [hdb, hw]; rintro (⟨_, h⟩ | h); cases h; omega))
      · exact (rnum_val2 s a b hab h3 hs c hc e48 hgt hbl hall w).mono (hlast (by rintro (⟨h, _⟩ | h) <;> omega))
  · have e48 : ((c : Int) == 48) = false := by simp; omega
    by_cases hbl : b < s.size
    · obtain ⟨d, hdd⟩ : ∃ d : Nat, (s[b]'hbl).toNat = d := ⟨_, rfl⟩
      have hdb : byteI s b = (d : Int) := by rw [byteI_at hbl, hdd]
      cases hw : isWordR (d : Int) with
      | true => exact (rnum_more1 s a b hab h3 hs c hc e48 hbl d hdd hw w).mono (hsyn (.inl ⟨hbl, by rw [hdb]; exact hw⟩))
      | false => exact (rnum_valw1 s a b hab h3 hs c hc e48 hbl d hdd hw hall w).mono (hlast (by rw [hdb, hw]; rintro (⟨_, h⟩ | h); cases h; omega))
    · exact (rnum_val1 s a b hab h3 hs c hc e48 hbl hall w).mono (hlast (by rintro (⟨h, _⟩ | h) <;> omega))
end Go.Proofs.YtmnfonhfbolnkaaDoor
