/-
  awake.
-/
import Derived.Test.YtmnfonhfbolnkaaDoorRSame
namespace Go.Proofs.YtmnfonhfbolnkaaDoor
open Go.RowKit
set_option linter.unusedVariables false
set_option linter.unusedSimpArgs false

def awS : ByteArray := ⟨#[118, 97, 114, 32, 120, 49, 58, 32, 65, 59]⟩
theorem aw_whole : (whole awS).e = 0 ∧ (whole awS).a = 0 ∧ (whole awS).l.length = 6 ∧ ((whole awS).l.getD 1 tokD).a = 4 ∧ ((whole awS).l.getD 1 tokD).t = ⟨#[120, 49]⟩ := by
  unfold whole
  rw [if_neg (by decide), ← toksN_eq]
  decide +kernel
theorem aw_new : isW ⟨#[110, 101, 119]⟩ 2 = true := by unfold isW; rw [← oneN_eq]; decide +kernel
theorem aw_newI : isW ⟨#[110, 101, 119]⟩ 1 = false := by unfold isW; rw [← oneN_eq]; decide +kernel
theorem aw_a : isW ⟨#[97]⟩ 1 = true := by unfold isW; rw [← oneN_eq]; decide +kernel
set_option maxHeartbeats 4000000 in
set_option maxRecDepth 100000 in
theorem awake_any (w : World) (hT : Tabs w) : Calls Tryd.prog 11 #[] w (BoolEnd true w) := by
  have HT := Lib.hid hT
  obtain ⟨r, hr⟩ : ∃ r, whole awS = r := ⟨_, rfl⟩
  have hw := aw_whole
  rw [hr] at hw
  obtain ⟨h1, h2, h3, h4, h5⟩ := hw
  have Hc := Lib.hid (tokens_any awS r hr w (by decide) hT)
  clear hT hr
  go_enter Tryd.func11, Tryd.ntmps11
  go_wp2_with fail
  refine Hc.out.mono ?_
  rintro e w1 ⟨v, rfl, hown, hb1⟩
  obtain ⟨a, c, rfl, hrd⟩ := hown.shape
  have hrd2 := hrd (by omega)
  obtain ⟨b, off, rfl, hcell⟩ := hrd2
  have hc1 := hcell 1 (by omega)
  rw [h4, h5] at hc1
  obtain ⟨_, k1, k2, _⟩ := hc1
  simp only [Nat.one_mul] at k1 k2
  rw [h1, h2, h3]
  have HT1 := Lib.hid (HT.out.below hb1 (Nat.le_refl _))
  have Hb1 := Lib.hid hb1
  clear hb1 hown hrd hcell h1 h2 h3 h4 h5
  go_wp2_with (first
    | (go_at_call 14; refine (keyword_any ⟨#[110, 101, 119]⟩ true aw_new _ (by decide) HT1.out).mono ?_; rintro e w2 ⟨rfl, hb2⟩; have HT2 := Lib.hid (HT1.out.below hb2 (Nat.le_refl _)); have Hb2 := Lib.hid (Hb1.out.trans (hb2.mono Hb1.out.size)); clear hb2)
    | (go_at_call 12; refine (ident_any ⟨#[110, 101, 119]⟩ false aw_newI _ (by decide) HT2.out).mono ?_; rintro e w3 ⟨rfl, hb3⟩; have HT3 := Lib.hid (HT2.out.below hb3 (Nat.le_refl _)); have Hb3 := Lib.hid (Hb2.out.trans (hb3.mono Hb2.out.size)); clear hb3)
    | (go_at_call 12; refine (ident_any ⟨#[97]⟩ true aw_a _ (by decide) HT3.out).mono ?_; rintro e w4 ⟨rfl, hb4⟩; have Hb4 := Lib.hid (Hb3.out.trans (hb4.mono Hb3.out.size)); clear hb4))
  go_ret
  exact ⟨rfl, Hb4.out⟩
end Go.Proofs.YtmnfonhfbolnkaaDoor
