/-
  first finds the token at the beginning of a text, or its error.
-/
import Derived.Test.YtmnfonhfbolnkaaDoorLOneM
namespace Go.Proofs.YtmnfonhfbolnkaaDoor
open Go.RowKit
set_option linter.unusedVariables false

/-- The tables of the program lie where it keeps them. -/
structure Tabs (w : World) : Prop where
  mar : Mk w
  kw : Kw w
  er : Er w
theorem Er.below {w w' : World} {B : Nat} (h : Er w) (hb : Below B w w') (hB : w.heap.size ≤ B) : Er w' := by
  obtain ⟨ev, h1, h2, h3⟩ := h
  exact ⟨ev, (hb.cell (p := ⟨4, 0, none⟩) (Nat.lt_of_lt_of_le h3 hB)).trans h1, h2, Nat.lt_of_lt_of_le h3 hb.size⟩
theorem Tabs.below {w w' : World} {B : Nat} (h : Tabs w) (hb : Below B w w') (hB : w.heap.size ≤ B) : Tabs w' :=
  ⟨h.mar.below hb hB, h.kw.below hb hB, h.er.below hb hB⟩
theorem end_mono {t t' : ByteArray} {k k' n n' e0 e0' : Int} {w : World} {e : Ending} {w' : World} (h : NumEnd1 t k n e0 w e w') (h1 : t = t') (h2 : k = k') (h3 : n = n') (h4 : e0 = e0') : NumEnd1 t' k' n' e0' w e w' := by
  subst h1; subst h2; subst h3; subst h4; exact h

theorem len_data (r : ByteArray) : r.data.toList.length = r.size := by simp
theorem data_ne {r : ByteArray} (h : 0 < r.size) : r.data.toList ≠ [] := fun e => by
  have := len_data r
  rw [e] at this
  simp at this
  omega
theorem word_at (u s : ByteArray) (hl : isLetR (byteI s 0) = true) (hu : u = s.extract 0 (lb isWordR s 0)) (X : World) (hK : Kw X) (hs : s.size ≤ 281474976710656) :
    Calls Tryd.prog 38 #[.string u] X (NumEnd1 (oneF s).t (oneF s).k (oneF s).n (oneF s).e X) := by
  have hR := (lb_led isWordR s 0 (Nat.zero_le _)).le
  have hz : u.size = lb isWordR s 0 := by rw [hu, size_extract s 0 _ hR]; omega
  refine (word_any u X hK (by rw [hz]; unfold maxLen; omega)).mono ?_
  rintro e w' ⟨hb, ⟨h32, rfl⟩ | ⟨h32, hk, rfl⟩ | ⟨h32, hk, rfl⟩⟩
  · have e : oneF s = ⟨0, ⟨#[]⟩, 0, 3⟩ := by unfold oneF; rw [if_pos hl, if_pos (by omega)]
    rw [e]; exact ⟨hb, rfl⟩
  · have e : oneF s = ⟨2, u, 0, 0⟩ := by unfold oneF; rw [if_pos hl, if_neg (by omega), ← hu, if_pos ((isKwd_iff u).mpr hk)]
    rw [e]; exact ⟨hb, rfl⟩
  · have e : oneF s = ⟨1, u, 0, 0⟩ := by unfold oneF; rw [if_pos hl, if_neg (by omega), ← hu, if_neg (by rw [isKwd_not hk]; decide)]
    rw [e]; exact ⟨hb, rfl⟩
theorem mark_at (s : ByteArray) (hl : ¬ isLetR (byteI s 0) = true) (hd : ¬ isDigR (byteI s 0) = true) (X : World) (hM : Mk X) :
    Calls Tryd.prog 39 #[.string s] X (NumEnd1 (oneF s).t (oneF s).k (oneF s).n (oneF s).e X) := by
  refine (mark_any s X hM).mono ?_
  rintro e w' ⟨hb, ⟨j, hj, hn, hp, rfl⟩ | ⟨hn, rfl⟩⟩
  · have hm := mark_len s j hj hn hp
    have e : oneF s = ⟨4, marksB.getD j ⟨#[]⟩, 0, 0⟩ := by
      unfold oneF
      rw [if_neg hl, if_neg hd, if_neg (by rw [hm]; exact mark_pos j hj), hm, prefix_take hp]
    rw [e]; exact ⟨hb, rfl⟩
  · have e : oneF s = ⟨0, ⟨#[]⟩, 0, 2⟩ := by
      unfold oneF
      rw [if_neg hl, if_neg hd, if_pos (mark_none s hn)]
    rw [e]; exact ⟨hb, rfl⟩
theorem number_at (d r s : ByteArray) (hl : ¬ isLetR (byteI s 0) = true) (hd : isDigR (byteI s 0) = true) (hde : d = s.extract 0 (lb isDigR s 0)) (hre : r = s.extract 0 (lb isWordR s 0)) (hD : 0 < lb isDigR s 0) (X : World) (hE : Er X) (hs : s.size ≤ 281474976710656) :
    Calls Tryd.prog 37 #[.string d, .string r] X (NumEnd1 (oneF s).t (oneF s).k (oneF s).n (oneF s).e X) := by
  have hR := (lb_led isWordR s 0 (Nat.zero_le _)).le
  have hDl := (lb_led isDigR s 0 (Nat.zero_le _)).le
  have hzr : r.size = lb isWordR s 0 := by rw [hre, size_extract s 0 _ hR]; omega
  have hzd : d.size = lb isDigR s 0 := by rw [hde, size_extract s 0 _ hDl]; omega
  have hz : 0 < d.size := by omega
  have h0 : byteI d 0 = byteI s 0 := by rw [hde, byteI_extract s 0 _ 0 hDl (by omega)]
  have hone : oneF s = (if lb isWordR s 0 ≠ lb isDigR s 0 ∨ byteI s 0 = 48 ∧ 1 < lb isDigR s 0 then ⟨0, ⟨#[]⟩, 0, 2⟩
     else if 9223372036854775807 < decV d.data.toList 0 then ⟨0, ⟨#[]⟩, 0, 4⟩
     else ⟨3, d, (decV d.data.toList 0 : Int), 0⟩) := by
    unfold oneF
    rw [if_neg hl, if_pos hd, ← hde]
  by_cases hlen : lb isWordR s 0 = lb isDigR s 0
  · have e : r = d := by rw [hre, hde, hlen]
    subst e
    have hpv := parseV (l := r.data.toList) (by rw [hde]; exact digs_lb s) (data_ne hz)
    by_cases h48 : byteI s 0 = 48
    · have hn : (((r[0]'hz).toNat : Int) == 48) = true := by rw [byte_at0 hz, h0]; simpa using h48
      by_cases h1 : 1 < lb isDigR s 0
      · have hf : (r.toList == [48]) = false := by
          rw [beq_eq_false_iff_ne]
          intro h
          have := len_data r
          rw [← Lib.toList_data, h] at this
          simp at this
          omega
        rw [hone, if_pos (.inr ⟨h48, h1⟩)]
        exact number_zero r X hz hn hf
      · have hz1 : r.size = 1 := by omega
        have hl48 : r.data.toList = [48] := by
          match hx : r.data.toList with
          | [] => exact absurd hx (data_ne hz)
          | [c] =>
            unfold byteI at h0
            rw [hx] at h0
            have h0' : ((c.toNat : Nat) : Int) = 48 := by rw [← h48]; exact h0
            rw [UInt8.toNat_inj.mp (show c.toNat = (48 : UInt8).toNat by show c.toNat = 48; omega)]
          | a :: b :: q =>
            have := len_data r
            rw [hx] at this
            simp at this
            omega
        have ht : (r.toList == [48]) = true := by rw [Lib.toList_data, hl48]; rfl
        have hv : decV r.data.toList 0 = 0 := by rw [hl48]; rfl
        rw [hv, if_neg (by omega)] at hpv
        rw [hone, if_neg (by omega), hv, if_neg (by omega)]
        exact number_okz r 0 hpv X hz (by omega) hn ht
    · have hn : (((r[0]'hz).toNat : Int) == 48) = false := by rw [byte_at0 hz, h0]; simpa using h48
      rw [hone, if_neg (by omega)]
      by_cases hbig : 9223372036854775807 < decV r.data.toList 0
      · rw [if_pos hbig] at hpv ⊢
        exact number_range r hpv X hz (by omega) hn hE
      · rw [if_neg hbig] at hpv ⊢
        exact number_ok r _ hpv X hz (by omega) hn
  · have hne : (d.toList == r.toList) = false := by
      rw [beq_eq_false_iff_ne]
      intro h
      have h1 := len_data d
      have h2 := len_data r
      rw [← Lib.toList_data] at h1 h2
      rw [h] at h1
      omega
    rw [hone, if_pos (.inl hlen)]
    exact number_more d r X hne
theorem first_any (s : ByteArray) (o : One) (ho : oneF s = o) (w : World) (hs : s.size ≤ 281474976710656) (hT : Tabs w) : Calls Tryd.prog 25 #[.string s] w (NumEnd1 o.t o.k o.n o.e w) := by
  subst ho
  have hR := (lb_led isWordR s 0 (Nat.zero_le _)).le
  have hDl := (lb_led isDigR s 0 (Nat.zero_le _)).le
  have hm : s.size ≤ maxLen := by unfold maxLen; omega
  have hzr : (s.extract 0 (lb isWordR s 0)).size = lb isWordR s 0 := by rw [size_extract s 0 _ hR]; omega
  have hzd : (s.extract 0 (lb isDigR s 0)).size = lb isDigR s 0 := by rw [size_extract s 0 _ hDl]; omega
  have hrm : (s.extract 0 (lb isWordR s 0)).size ≤ maxLen := by omega
  have hr := runOf_lb s
  have hd : digOf (s.extract 0 (lb isWordR s 0)) = s.extract 0 (lb isDigR s 0) := by rw [← hr]; exact digOf_run s
  have pos : ∀ p : Int → Bool, p (byteI s 0) = true → p 0 = false → 0 < lb p s 0 := fun p hp h0 => by
    have hu : 0 < s.size := by
      rcases Nat.eq_zero_or_pos s.size with e | e
      · rw [byteI_out (by omega), h0] at hp; cases hp
      · exact e
    rcases Nat.eq_zero_or_pos (lb p s 0) with e | e
    · have := (lb_led p s 0 (Nat.zero_le _)).stop (by omega)
      rw [e, hp] at this; cases this
    · exact e
  have zero : ∀ p : Int → Bool, p (byteI s 0) = false → lb p s 0 = 0 := fun p hp => by
    rcases Nat.eq_zero_or_pos (lb p s 0) with e | e
    · exact e
    · have := (lb_led p s 0 (Nat.zero_le _)).all 0 (Nat.le_refl _) e
      rw [hp] at this; cases this
  by_cases hdg : isDigR (byteI s 0) = true
  · have hD := pos isDigR hdg (by decide)
    have hl : ¬ isLetR (byteI s 0) = true := by
      intro h
      have h1 := (dig_iff _).mp hdg
      have h2 := (let_iff _).mp h
      omega
    refine first_num s _ _ hr hd (by rw [toList_nil]; omega) hm hrm _ _ _ _ w (fun X hX => ?_)
    exact number_at _ _ s hl hdg rfl rfl hD X (hT.er.below hX (Nat.le_refl _)) hs
  · have hD := zero isDigR (by simpa using hdg)
    have hdn : (s.extract 0 (lb isDigR s 0)).toList = [] := by rw [toList_nil]; omega
    by_cases hl : isLetR (byteI s 0) = true
    · have hR0 := pos isWordR (let_word hl) (by decide)
      have hz0 : 0 < (s.extract 0 (lb isWordR s 0)).size := by omega
      refine first_word s _ _ hr hd hdn (by rw [toList_nil]; omega) hz0 ?_ hm hrm _ _ _ _ w (fun X hX => ?_)
      · rw [byte_at0 hz0, byteI_extract s 0 _ 0 hR (by omega)]
        have h2 := (let_iff _).mp hl
        simp only [decide_eq_false_iff_not]
        rw [Nat.add_zero]
        omega
      · exact word_at _ s hl rfl X (hT.kw.below hX (Nat.le_refl _)) hs
    · by_cases h95 : byteI s 0 = 95
      · have hR0 := pos isWordR (by rw [h95]; decide) (by decide)
        have hz0 : 0 < (s.extract 0 (lb isWordR s 0)).size := by omega
        refine first_mark2 s _ _ hr hd hdn (by rw [toList_nil]; omega) hz0 ?_ hm hrm _ _ _ _ w (fun X hX => ?_)
        · rw [byte_at0 hz0, byteI_extract s 0 _ 0 hR (by omega)]
          simp only [decide_eq_true_eq]
          exact h95
        · exact mark_at s hl hdg X (hT.mar.below hX (Nat.le_refl _))
      · have hR0 := zero isWordR (by
          cases h : isWordR (byteI s 0) with
          | false => rfl
          | true => rcases word_cases h with h | h | h
                    · exact absurd h hl
                    · exact absurd h hdg
                    · exact absurd h h95)
        refine first_mark s _ _ hr hd hdn (by rw [toList_nil]; omega) hm hrm _ _ _ _ w (fun X hX => ?_)
        exact mark_at s hl hdg X (hT.mar.below hX (Nat.le_refl _))
end Go.Proofs.YtmnfonhfbolnkaaDoor
