/-
  Where the program's range stands among the tokens.
-/
import Derived.Test.YtmnfonhfbolnkaaDoorRTok
namespace Go.Proofs.YtmnfonhfbolnkaaDoor
open Go.RowKit
set_option linter.unusedVariables false

/-- The range stands at pos, the last token or comment ends at e, the tokens so far are out; r is the answer. -/
structure TI (s : ByteArray) (r : Whole) (pos e b : Nat) (out : List Tok) : Prop where
  to : toksF s (b + 1) (max pos e) out = r
  ple : pos ≤ s.size
  ele : e ≤ s.size
  fuel : s.size ≤ max pos e + b
  len : out.length ≤ max pos e
  ok : pos < e → (e = s.size ∨ byteI s e < 128 ∨ ∀ i, pos ≤ i → i < e → byteI s i < 128)
theorem line_ten {c : Int} (h : isLineR c = false) : c = 10 := by
  unfold isLineR at h
  simpa using h
theorem step_size (s : ByteArray) (pos : Nat) (h : pos < s.size) : pos + (Utf8.decode s pos).2 ≤ s.size := by
  by_cases ha : byteI s pos < 128
  · rw [decode_asc s pos h ha]; exact h
  · have hw := width_pos s pos h
    have := (decode_cont s pos h (by omega) ((Utf8.decode s pos).2 - 1) (by omega)).1
    omega
theorem TI.start (s : ByteArray) (r : Whole) (h : toksF s (s.size + 1) 0 [] = r) : TI s r 0 0 s.size [] :=
  ⟨h, Nat.zero_le _, Nat.zero_le _, by omega, Nat.zero_le _, fun h => by omega⟩
theorem TI.inside {s : ByteArray} {r : Whole} {pos e b : Nat} {out : List Tok} (h : TI s r pos e b out) (hlt : pos < e) : TI s r (pos + (Utf8.decode s pos).2) e b out := by
  have hps : pos < s.size := Nat.lt_of_lt_of_le hlt h.ele
  have hle : pos + (Utf8.decode s pos).2 ≤ e := by
    by_cases ha : byteI s pos < 128
    · rw [decode_asc s pos hps ha]; exact hlt
    · have hc := decode_cont s pos hps (by omega)
      rcases h.ok hlt with k | k | k
      · rw [k]; exact step_size s pos hps
      · rcases Nat.lt_or_ge e (pos + (Utf8.decode s pos).2) with q | q
        · have := (hc (e - pos) (by omega)).2
          rw [show pos + (e - pos) = e from by omega] at this
          omega
        · exact q
      · exact absurd (k pos (Nat.le_refl _) hlt) ha
  have hm : max (pos + (Utf8.decode s pos).2) e = max pos e := by omega
  refine ⟨by rw [hm]; exact h.to, step_size s pos hps, h.ele, by rw [hm]; exact h.fuel, by rw [hm]; exact h.len, fun hl => ?_⟩
  rcases h.ok hlt with k | k | k
  · exact .inl k
  · exact .inr (.inl k)
  · exact .inr (.inr (fun i h1 h2 => k i (by omega) h2))
theorem spc_rune (s : ByteArray) (pos : Nat) (h : pos < s.size) : isSpcR ((Utf8.decode s pos).1 : Int) = isSpcR (byteI s pos) := by
  by_cases ha : byteI s pos < 128
  · rw [decode_asc s pos h ha]
    show isSpcR (((byteI s pos).toNat : Nat) : Int) = _
    rw [Int.toNat_of_nonneg (byteI_nonneg s pos)]
  · have h1 := decode_fst_high s pos h (by omega)
    have k : ∀ x : Int, 128 ≤ x → isSpcR x = false := fun x hx => by
      unfold isSpcR
      have e1 : (x == 32) = false := by simp; omega
      have e2 : (x == 9) = false := by simp; omega
      have e3 : (x == 13) = false := by simp; omega
      have e4 : (x == 10) = false := by simp; omega
      rw [e1, e2, e3, e4]; rfl
    rw [k _ (by omega), k _ (by omega)]
theorem spc_asc {c : Int} (h : isSpcR c = true) : c < 128 := by
  unfold isSpcR at h
  simp only [Bool.or_eq_true, beq_iff_eq] at h
  omega
theorem width_one {s : ByteArray} {pos : Nat} (h : pos < s.size) (ha : byteI s pos < 128) : (Utf8.decode s pos).2 = 1 := by rw [decode_asc s pos h ha]
theorem TI.space {s : ByteArray} {r : Whole} {pos e b : Nat} {out : List Tok} (h : TI s r pos e b out) (hge : e ≤ pos) (hlt : pos < s.size) (hsp : isSpcR (byteI s pos) = true) : TI s r (pos + (Utf8.decode s pos).2) e b out := by
  rw [width_one hlt (spc_asc hsp)]
  have h1 : max pos e = pos := by omega
  have h2 : max (pos + 1) e = pos + 1 := by omega
  have ht := h.to
  have hf := h.fuel
  have hl := h.len
  rw [h1] at ht hf hl
  refine ⟨?_, hlt, h.ele, by omega, by omega, fun hx => by omega⟩
  rw [h2, ← toksF_skp (skp_space hlt hsp)]
  exact ht
theorem TI.comment {s : ByteArray} {r : Whole} {pos e b : Nat} {out : List Tok} (h : TI s r pos e b out) (hge : e ≤ pos) (hlt : pos < s.size) (hc : byteI s pos = 47 ∧ byteI s (pos + 1) = 47) : TI s r (pos + (Utf8.decode s pos).2) (lb isLineR s pos) b out := by
  rw [width_one hlt (by omega)]
  have h1 : max pos e = pos := by omega
  have hgt := line_gt hlt hc.1
  have hled := lb_led isLineR s pos (Nat.le_of_lt hlt)
  have h2 : max (pos + 1) (lb isLineR s pos) = lb isLineR s pos := by omega
  have ht := h.to
  have hf := h.fuel
  have hl := h.len
  rw [h1] at ht hf hl
  refine ⟨?_, hlt, hled.le, by omega, by omega, fun hx => ?_⟩
  · rw [h2, ← toksF_skp (skp_comment hc)]
    exact ht
  · rcases Nat.eq_or_lt_of_le hled.le with k | k
    · exact .inl k
    · right; left
      have := hled.stop k
      have := line_ten this
      omega
theorem TI.tok {s : ByteArray} {r : Whole} {pos e b : Nat} {out : List Tok} (h : TI s r pos e b out) (hge : e ≤ pos) (hlt : pos < s.size) (hsp : isSpcR (byteI s pos) = false) (hc : ¬ (byteI s pos = 47 ∧ byteI s (pos + 1) = 47)) {o : One} (ho : oneF (s.extract pos s.size) = o) (he : o.e = 0) :
    ∃ b', TI s r (pos + (Utf8.decode s pos).2) (pos + o.t.size) b' (out ++ [⟨o.k, pos, o.t, o.n⟩]) := by
  have hok := one_ok ho he
  rw [size_extract s pos _ (Nat.le_refl _)] at hok
  obtain ⟨k1, k2, k3, k4⟩ := hok
  have hasc : ∀ i, pos ≤ i → i < pos + o.t.size → byteI s i < 128 := fun i h1 h2 => by
    have := k4 (i - pos) (by omega)
    rw [byteI_suf, show pos + (i - pos) = i from by omega] at this
    exact this
  rw [width_one hlt (hasc pos (Nat.le_refl _) (by omega))]
  have h1 : max pos e = pos := by omega
  have h2 : max (pos + 1) (pos + o.t.size) = pos + o.t.size := by omega
  have ht := h.to
  have hf := h.fuel
  have hl := h.len
  rw [h1] at ht hf hl
  obtain ⟨c, rfl⟩ : ∃ c, b = c + 1 := ⟨b - 1, by omega⟩
  refine ⟨c, ?_, hlt, by omega, by omega, by simp; omega, fun hx => .inr (.inr fun i q1 q2 => hasc i (by omega) q2)⟩
  rw [h2, ← toksF_tok (skp_stop hsp hc) hlt ho he]
  exact ht
theorem TI.err {s : ByteArray} {r : Whole} {pos e b : Nat} {out : List Tok} (h : TI s r pos e b out) (hge : e ≤ pos) (hlt : pos < s.size) (hsp : isSpcR (byteI s pos) = false) (hc : ¬ (byteI s pos = 47 ∧ byteI s (pos + 1) = 47)) {o : One} (ho : oneF (s.extract pos s.size) = o) (he : ¬ o.e = 0) : r = ⟨[], pos, o.e⟩ := by
  have h1 : max pos e = pos := by omega
  have ht := h.to
  rw [h1, toksF_err (skp_stop hsp hc) hlt ho he] at ht
  exact ht.symm
theorem TI.fin {s : ByteArray} {r : Whole} {pos e b : Nat} {out : List Tok} (h : TI s r pos e b out) (hlt : ¬ pos < s.size) : r = ⟨out ++ [⟨5, s.size, ⟨#[]⟩, 0⟩], 0, 0⟩ := by
  have h1 : max pos e = s.size := by have := h.ple; have := h.ele; omega
  have ht := h.to
  rw [h1, toksF_end (by rw [skp_end (Nat.lt_irrefl _)]; exact Nat.lt_irrefl _)] at ht
  exact ht.symm
theorem iterPos_of {w : World} {k p : Nat} {s : ByteArray} (h : w.heap[k]? = some (.stringIter s p)) : w.iterPos k = p := by
  simp [World.iterPos, h]
theorem heap_below {w w' : World} {B k : Nat} {o : Obj} (h : w.heap[k]? = some o) (hb : Below B w w') (hk : k < B) : w'.heap[k]? = some o := (hb.block k hk).trans h
end Go.Proofs.YtmnfonhfbolnkaaDoor
