/-
  The law LexTokens.
-/
import Derived.Test.YtmnfonhfbolnkaaDoorAwake
namespace Go.Proofs.YtmnfonhfbolnkaaDoor
open Go.RowKit
set_option linter.unusedVariables false
set_option linter.unusedSimpArgs false

theorem whole_len (s : ByteArray) : (whole s).l.length ≤ 65537 := by
  unfold whole
  by_cases h : 65536 < s.size
  · rw [if_pos h]; decide
  · rw [if_neg h]
    have key : ∀ (b pos : Nat) (out : List Tok), pos ≤ s.size → (toksF s b pos out).l.length ≤ out.length + (s.size - pos) + 1 := by
      intro b
      induction b with
      | zero => intro pos out hp; show (out ++ [_]).length ≤ _; simp
      | succ b ih =>
        intro pos out hp
        have hg := skp_ge s pos hp
        obtain ⟨q, hq⟩ : ∃ q, skp s pos = q := ⟨_, rfl⟩
        rw [hq] at hg
        by_cases hlt : q < s.size
        · obtain ⟨o, ho⟩ : ∃ o, oneF (s.extract q s.size) = o := ⟨_, rfl⟩
          by_cases he : o.e = 0
          · have hok := one_ok ho he
            rw [size_extract s q _ (Nat.le_refl _)] at hok
            rw [toksF_tok hq hlt ho he]
            have := ih (q + o.t.size) (out ++ [⟨o.k, q, o.t, o.n⟩]) (by omega)
            simp at this
            omega
          · rw [toksF_err hq hlt ho he]
            exact Nat.zero_le _
        · rw [toksF_end (by omega)]
          show (out ++ [_]).length ≤ _
          simp
    have := key (s.size + 1) 0 [] (Nat.zero_le _)
    simp at this
    omega
set_option maxHeartbeats 4000000 in
set_option maxRecDepth 100000 in
theorem law_tokens (s : ByteArray) (w : World) (hs : s.size ≤ maxLen) (hT : Tabs w) : Calls Tryd.prog 3 #[.string s] w (BoolEnd true w) := by
  obtain ⟨r, hr⟩ : ∃ r, whole s = r := ⟨_, rfl⟩
  have hlen : r.l.length ≤ 70000 := by have := whole_len s; rw [hr] at this; omega
  have HT := Lib.hid hT
  have Hc := Lib.hid (fun W (hW : Tabs W) => tokens_any s r hr W hs hW)
  have Hd := Lib.hid (fun W => rtokens_any s r hr W hs)
  clear hr hT hs
  go_enter Tryd.func3, Tryd.ntmps3
  go_wp2_with fail
  refine (Hc.out w HT.out).mono ?_
  rintro e w1 ⟨v, rfl, hown, hb1⟩
  obtain ⟨a, c, rfl, hrd⟩ := hown.shape
  have Hrd := Lib.hid hrd
  have HT1 := Lib.hid (HT.out.below hb1 (Nat.le_refl _))
  have Hb1 := Lib.hid hb1
  clear hrd hown hb1
  go_wp2_with fail
  refine (Hd.out w1).mono ?_
  rintro e w2 ⟨v, rfl, hown, hb2⟩
  obtain ⟨b, d, rfl, hrd2⟩ := hown.shape
  have Hrd2 := Lib.hid hrd2
  have Hrd1 := Lib.hid (Hrd.out.below hb2 (Nat.le_refl _))
  have HT2 := Lib.hid (HT1.out.below hb2 (Nat.le_refl _))
  have Hb2 := Lib.hid (Hb1.out.trans (hb2.mono Hb1.out.size))
  clear hrd2 hown hb2
  go_wp2_with (first
    | (go_at_call 10; refine (rsame_any _ _ _ _ r.l _ hlen Hrd1.out Hrd2.out).mono ?_; rintro e w3 ⟨rfl, hb3⟩; have HT3 := Lib.hid (HT2.out.below hb3 (Nat.le_refl _)); have Hb3 := Lib.hid (Hb2.out.trans (hb3.mono Hb2.out.size)); clear hb3)
    | (go_at_call 11; refine (awake_any _ HT3.out).mono ?_; rintro e w4 ⟨rfl, hb4⟩; have Hb4 := Lib.hid (Hb3.out.trans (hb4.mono Hb3.out.size)); clear hb4))
  go_ret
  exact ⟨rfl, Hb4.out⟩
end Go.Proofs.YtmnfonhfbolnkaaDoor
