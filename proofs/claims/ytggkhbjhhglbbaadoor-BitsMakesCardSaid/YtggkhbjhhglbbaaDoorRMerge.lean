/-
  The definition's Merge: Union, Minus and Both.
-/
import Derived.Test.YtggkhbjhhglbbaaDoorRMake
namespace Go.Proofs.YtggkhbjhhglbbaaDoor
open Go.RowKit Go.WideShapes
set_option linter.unusedVariables false

/-- What the merge takes: the first flag for what is in the first set alone, and so on. -/
def sel (f s b p q : Bool) : Bool := if p then (if q then b else f) else (q && s)
def selP (f s b : Bool) (A B : List Nat) (x : Nat) : Bool := sel f s b (decide (x ∈ A)) (decide (x ∈ B))
def selTo (f s b : Bool) (A B : List Nat) (t : Nat) : List Nat := (List.range t).filter (selP f s b A B)
theorem alloc_head (w : World) (z : Int) (t : TypeId) : (w.alloc (Obj.cells #[Value.int .i64 z] t)).cell? ⟨w.heap.size, 0, none⟩ = some (.int .i64 z) := by simp [go_sem]
def addIf (v : Bool) (L : List Nat) (x : Nat) : List Nat := if v then L ++ [x] else L
theorem addIf_true (L : List Nat) (x : Nat) : addIf true L x = L ++ [x] := rfl
theorem addIf_false (L : List Nat) (x : Nat) : addIf false L x = L := rfl
/-- Index i parts the list at t. -/
def Cut (A : List Nat) (i t : Nat) : Prop := (∀ j, j < i → j < A.length → A.getD j 0 < t) ∧ ∀ j, i ≤ j → j < A.length → t ≤ A.getD j 0
theorem Cut.zero (A : List Nat) : Cut A 0 0 := ⟨fun j h => absurd h (by omega), fun j _ _ => Nat.zero_le _⟩
theorem Cut.notIn {A : List Nat} {i t x y : Nat} (h : Cut A i t) (hA : Asc A) (hty : t ≤ y) (hx : i < A.length → y < A.getD i 0) : y ∉ A := by
  intro hm
  obtain ⟨j, hj, rfl⟩ := mem_getD hm
  rcases Nat.lt_trichotomy j i with c | c | c
  · have := h.1 j c hj; omega
  · subst c; have := hx hj; omega
  · have := asc_getD hA c hj; have := hx (by omega); omega
theorem Cut.hit {A : List Nat} {i t x : Nat} (h : Cut A i t) (hA : Asc A) (hi : i < A.length) (hx : A.getD i 0 = x) : Cut A (i + 1) (x + 1) := by
  subst hx
  refine ⟨fun j h1 h2 => ?_, fun j h1 h2 => ?_⟩
  · rcases Nat.lt_or_ge j i with c | c
    · have := asc_getD hA c hi; omega
    · rw [show j = i from by omega]; omega
  · have := asc_getD hA (i := i) (j := j) (by omega) h2; omega
theorem Cut.miss {A : List Nat} {i t x : Nat} (h : Cut A i t) (hA : Asc A) (ht : t ≤ x) (hx : i < A.length → x < A.getD i 0) : Cut A i (x + 1) := by
  refine ⟨fun j h1 h2 => by have := h.1 j h1 h2; omega, fun j h1 h2 => ?_⟩
  have := hx (by omega)
  rcases Nat.lt_or_ge i j with c | c
  · have := asc_getD hA c h2; omega
  · rw [show j = i from by omega]; omega
theorem filter_flat (P : Nat → Bool) (t d : Nat) (h : ∀ y, t ≤ y → y < t + d → P y = false) : (List.range (t + d)).filter P = (List.range t).filter P := by
  induction d with
  | zero => rfl
  | succ d ih =>
    rw [← Nat.add_assoc, List.range_succ, List.filter_append, ih fun y h1 h2 => h y h1 (by omega)]
    simp [h (t + d) (by omega) (by omega)]
theorem filter_jump (P : Nat → Bool) (t x : Nat) (htx : t ≤ x) (h : ∀ y, t ≤ y → y < x → P y = false) : (List.range (x + 1)).filter P = (List.range t).filter P ++ if P x then [x] else [] := by
  obtain ⟨d, rfl⟩ : ∃ d, x = t + d := ⟨x - t, by omega⟩
  rw [List.range_succ, List.filter_append, filter_flat P t d h]
  congr 1
  by_cases e : P (t + d) <;> simp [e]
theorem selP_none {f s b : Bool} {A B : List Nat} {y : Nat} (h1 : y ∉ A) (h2 : y ∉ B) : selP f s b A B y = false := by simp [selP, sel, h1, h2]

section
variable {f s b : Bool} {A B : List Nat} {i k t x y : Nat}
theorem sel_gap (ca : Cut A i t) (cb : Cut B k t) (hA : Asc A) (hB : Asc B) (z : Nat) (h1 : i < A.length → z ≤ A.getD i 0) (h2 : k < B.length → z ≤ B.getD k 0) : ∀ y, t ≤ y → y < z → selP f s b A B y = false := fun y hy hz =>
  selP_none (ca.notIn (x := 0) hA hy fun h => by have := h1 h; omega) (cb.notIn (x := 0) hB hy fun h => by have := h2 h; omega)
/-- The next number is in the first alone. -/
theorem jump_first (ca : Cut A i t) (cb : Cut B k t) (hA : Asc A) (hB : Asc B) (hi : i < A.length) (hx : A.getD i 0 = x) (hk : k < B.length → x < B.getD k 0) {v : Bool} (hf : f = v) :
    Cut A (i + 1) (x + 1) ∧ Cut B k (x + 1) ∧ selTo f s b A B (x + 1) = addIf v (selTo f s b A B t) x := by
  have ht : t ≤ x := by rw [← hx]; exact ca.2 i (Nat.le_refl _) hi
  refine ⟨ca.hit hA hi hx, cb.miss hB ht hk, ?_⟩
  unfold selTo
  rw [filter_jump _ t x ht (sel_gap ca cb hA hB x (fun _ => by omega) fun h => by have := hk h; omega)]
  have h1 : x ∈ A := by rw [← hx]; exact getD_mem hi
  have h2 : x ∉ B := cb.notIn (x := 0) hB ht hk
  have : selP f s b A B x = v := by simp [selP, sel, h1, h2, hf]
  rw [this]
  cases v <;> simp [addIf]
theorem jump_second (ca : Cut A i t) (cb : Cut B k t) (hA : Asc A) (hB : Asc B) (hk : k < B.length) (hx : B.getD k 0 = x) (hi : i < A.length → x < A.getD i 0) {v : Bool} (hf : s = v) :
    Cut A i (x + 1) ∧ Cut B (k + 1) (x + 1) ∧ selTo f s b A B (x + 1) = addIf v (selTo f s b A B t) x := by
  have ht : t ≤ x := by rw [← hx]; exact cb.2 k (Nat.le_refl _) hk
  refine ⟨ca.miss hA ht hi, cb.hit hB hk hx, ?_⟩
  unfold selTo
  rw [filter_jump _ t x ht (sel_gap ca cb hA hB x (fun h => by have := hi h; omega) fun _ => by omega)]
  have h1 : x ∈ B := by rw [← hx]; exact getD_mem hk
  have h2 : x ∉ A := ca.notIn (x := 0) hA ht hi
  have : selP f s b A B x = v := by simp [selP, sel, h1, h2, hf]
  rw [this]
  cases v <;> simp [addIf]
theorem jump_both (ca : Cut A i t) (cb : Cut B k t) (hA : Asc A) (hB : Asc B) (hi : i < A.length) (hx : A.getD i 0 = x) (hk : k < B.length) (hy : B.getD k 0 = x) {v : Bool} (hf : b = v) :
    Cut A (i + 1) (x + 1) ∧ Cut B (k + 1) (x + 1) ∧ selTo f s b A B (x + 1) = addIf v (selTo f s b A B t) x := by
  have ht : t ≤ x := by rw [← hx]; exact ca.2 i (Nat.le_refl _) hi
  refine ⟨ca.hit hA hi hx, cb.hit hB hk hy, ?_⟩
  unfold selTo
  rw [filter_jump _ t x ht (sel_gap ca cb hA hB x (fun _ => by omega) fun _ => by omega)]
  have h1 : x ∈ A := by rw [← hx]; exact getD_mem hi
  have h2 : x ∈ B := by rw [← hy]; exact getD_mem hk
  have : selP f s b A B x = v := by simp [selP, sel, h1, h2, hf]
  rw [this]
  cases v <;> simp [addIf]
end
theorem selTo_len (f s b : Bool) (A B : List Nat) (t : Nat) : (selTo f s b A B t).length ≤ t := by
  have := List.length_filter_le (selP f s b A B) (List.range t)
  simpa [selTo] using this
theorem asc_selTo (f s b : Bool) (A B : List Nat) (t : Nat) : Asc (selTo f s b A B t) := by
  unfold Asc selTo
  exact List.Pairwise.filter _ List.pairwise_lt_range
theorem mem_selTo {f s b : Bool} {A B : List Nat} {t : Nat} (ca : Cut A A.length t) (cb : Cut B B.length t) (x : Nat) : x ∈ selTo f s b A B t ↔ selP f s b A B x = true := by
  unfold selTo
  rw [List.mem_filter, List.mem_range]
  constructor
  · exact fun h => h.2
  · intro h
    refine ⟨?_, h⟩
    by_cases h1 : x ∈ A
    · obtain ⟨j, hj, rfl⟩ := mem_getD h1
      exact ca.1 j hj hj
    · by_cases h2 : x ∈ B
      · obtain ⟨j, hj, rfl⟩ := mem_getD h2
        exact cb.1 j hj hj
      · rw [selP_none h1 h2] at h; cases h

set_option maxHeartbeats 6400000 in
set_option maxRecDepth 100000 in
theorem rmerge_any {a : Option Addr} {c : Nat} {wa : List Nat} {b : Option Addr} {d : Nat} {wb : List Nat} {w : World} (f s bo : Bool) (h1 : Good w a c wa) (h2 : Good w b d wb) :
    Calls Tryd.prog 45 #[.slice a wa.length c, .slice b wb.length d, .bool f, .bool s, .bool bo] w fun e w' => ∃ a' c' ms, e = .returned (.slice a' ms.length c') ∧ Good w' a' c' ms ∧ Normal ms ∧
      (∀ i, mem ms i = sel f s bo (mem wa i) (mem wb i)) ∧ Below w.heap.size w w' := by
  have hca := card_le' h1.len
  have hcb := card_le' h2.len
  have Hba := Lib.hid (fun y (hy : y ∈ elems wa) => elem_bound (mem_elems.1 hy) h1.len)
  have Hbb := Lib.hid (fun y (hy : y ∈ elems wb) => elem_bound (mem_elems.1 hy) h2.len)
  have HA := Lib.hid (asc_elems wa)
  have HB := Lib.hid (asc_elems wb)
  have Hma := Lib.hid (fun i => (mem_elems (ws := wa) (i := i)))
  have Hmb := Lib.hid (fun i => (mem_elems (ws := wb) (i := i)))
  have H1 := Lib.hid h1
  have H2 := Lib.hid h2
  obtain ⟨A, hA⟩ : ∃ A, elems wa = A := ⟨_, rfl⟩
  obtain ⟨B, hB⟩ : ∃ B, elems wb = B := ⟨_, rfl⟩
  have Hza := Lib.hid (show asInts (elems wa) = asInts A by rw [hA])
  have Hzb := Lib.hid (show asInts (elems wb) = asInts B by rw [hB])
  rw [hA] at hca Hba HA Hma
  rw [hB] at hcb Hbb HB Hmb
  clear h1 h2 hA hB
  go_enter Tryd.func45, Tryd.ntmps45
  go_wp2_with fail
  refine (rlist_open H1.out Hza.out (length_asInts A)).mono ?_
  rintro e w1 ⟨aa, ca, rfl, hia, hb1⟩
  have Hia := Lib.hid hia
  have Hb1 := Lib.hid hb1
  have G2 := Lib.hid (H2.out.below hb1 (Nat.le_refl _))
  clear hia hb1
  go_wp2_with fail
  refine (rlist_open G2.out Hzb.out (length_asInts B)).mono ?_
  rintro e w2 ⟨ab, cb, rfl, hib, hb2⟩
  have Hib := Lib.hid hib
  have Hia2 := Lib.hid (Hia.out.below hb2 (Nat.le_refl _))
  have Hb2 := Lib.hid (Hb1.out.trans (hb2.mono Hb1.out.size))
  clear hib hb2
  go_wp2_with fail
  go_loopw [13, 14, 15] (fun v ii kk wr => ∃ i k t : Nat, i ≤ A.length ∧ k ≤ B.length ∧ ii = .int .i64 i ∧ kk = .int .i64 k ∧ Cut A i t ∧ Cut B k t ∧ t ≤ 70400 ∧ Own wr w2.heap.size v (asInts (selTo f s bo A B t)) ∧ Below w2.heap.size w2 wr) (fun _ ii kk _ => A.length + B.length - (intOf ii).toNat - (intOf kk).toNat)
  case atStart => exact ⟨0, 0, 0, Nat.zero_le _, Nat.zero_le _, rfl, rfl, Cut.zero _, Cut.zero _, Nat.zero_le _, (show asInts (selTo f s bo A B 0) = [] from rfl) ▸ Own.nil _ _, Below.refl _ _⟩
  case round =>
    obtain ⟨i, k, t, hi, hk, rfl, rfl, hca2, hcb2, ht, hown, hb⟩ := hrel
    have Hown := Lib.hid hown
    have Hb := Lib.hid hb
    have Ca := Lib.hid hca2
    have Cb := Lib.hid hcb2
    have Hlen := Lib.hid (selTo_len f s bo A B t)
    clear hown hb hca2 hcb2
    by_cases hin : i < A.length
    · have t1 : ((i : Int) == (A.length : Int)) = false := by rw [beq_eq_false_iff_ne]; omega
      obtain ⟨bl_x, off_x, rfl, hc_x⟩ := (Hia2.out.below Hb.out (Nat.le_refl _)) (by rw [length_asInts]; omega)
      have ck_x := hc_x i (by rw [length_asInts]; omega)
      rw [getD_asInts] at ck_x
      have hb_x := Hba.out _ (getD_mem (l := A) (i := i) (by omega))
      obtain ⟨x, he_x⟩ : ∃ x, A.getD i 0 = x := ⟨_, rfl⟩
      have E_x := Lib.hid he_x
      rw [he_x] at ck_x hb_x
      clear hc_x he_x
      by_cases hkm : k < B.length
      · have t2 : ((k : Int) == (B.length : Int)) = false := by rw [beq_eq_false_iff_ne]; omega
        obtain ⟨bl_y, off_y, rfl, hc_y⟩ := (Hib.out.below Hb.out (Nat.le_refl _)) (by rw [length_asInts]; omega)
        have ck_y := hc_y k (by rw [length_asInts]; omega)
        rw [getD_asInts] at ck_y
        have hb_y := Hbb.out _ (getD_mem (l := B) (i := k) (by omega))
        obtain ⟨y, he_y⟩ : ∃ y, B.getD k 0 = y := ⟨_, rfl⟩
        have E_y := Lib.hid he_y
        rw [he_y] at ck_y hb_y
        clear hc_y he_y
        rcases Nat.lt_trichotomy x y with hxy | hxy | hxy
        · have hxy2 : (x : Int) < y := by omega
          rcases Bool.eq_false_or_eq_true f with hfl | hfl
          · subst hfl
            have HJ := Lib.hid (jump_first (s := s) (b := bo) Ca.out Cb.out HA.out HB.out hin E_x.out (fun _ => by rw [E_y.out]; exact hxy) (v := true) rfl)
            go_wp2
            go_quiet (fail)
            go_wp2_with (at_builtin; refine wpList_append_int rfl _ _ rfl w2.heap.size _ _ rfl ((Hown.out.drewN _).alloc _) wr.heap.size ((x : Nat) : Int) rfl ?_ ?_ ?_ ?_)
            · exact alloc_head _ _ _
            · rw [length_asInts]; have := Hlen.out; omega
            · have := Hb.out.size; simp; omega
            intro v' w3 hown' hgrow
            have Ha := Lib.hid hown'
            have Hb1 := Lib.hid ((Hown.out.drewN _).grown hgrow (Hb.out.trans (Drawn.below ⟨_, rfl⟩ _)) Hb.out.size)
            clear hown' hgrow
            go_wp2
            go_roundw
            case rel => exact ⟨i + 1, k, x + 1, by omega, by omega, by go_num, by go_num, HJ.out.1, HJ.out.2.1, by omega, by rw [HJ.out.2.2, addIf_true, asInts_append]; exact Ha.out, Hb1.out⟩
            case measure => simp [intOf]; omega
          · subst hfl
            have HJ := Lib.hid (jump_first (s := s) (b := bo) Ca.out Cb.out HA.out HB.out hin E_x.out (fun _ => by rw [E_y.out]; exact hxy) (v := false) rfl)
            go_wp2
            go_quiet (fail)
            go_wp2
            go_roundw
            case rel => exact ⟨i + 1, k, x + 1, by omega, by omega, by go_num, by go_num, HJ.out.1, HJ.out.2.1, by omega, by rw [HJ.out.2.2, addIf_false]; exact Hown.out.drewN _, Hb.out.trans (Drawn.below ⟨_, rfl⟩ _)⟩
            case measure => simp [intOf]; omega
        · subst hxy
          rcases Bool.eq_false_or_eq_true bo with hfl | hfl
          · subst hfl
            have HJ := Lib.hid (jump_both (f := f) (s := s) Ca.out Cb.out HA.out HB.out hin E_x.out hkm E_y.out (v := true) rfl)
            go_wp2
            go_quiet (fail)
            go_wp2
            go_quiet (fail)
            go_wp2_with (at_builtin; refine wpList_append_int rfl _ _ rfl w2.heap.size _ _ rfl ((Hown.out.drewN _).alloc _) wr.heap.size ((x : Nat) : Int) rfl ?_ ?_ ?_ ?_)
            · exact alloc_head _ _ _
            · rw [length_asInts]; have := Hlen.out; omega
            · have := Hb.out.size; simp; omega
            intro v' w3 hown' hgrow
            have Ha := Lib.hid hown'
            have Hb1 := Lib.hid ((Hown.out.drewN _).grown hgrow (Hb.out.trans (Drawn.below ⟨_, rfl⟩ _)) Hb.out.size)
            clear hown' hgrow
            go_wp2
            go_roundw
            case rel => exact ⟨i + 1, k + 1, x + 1, by omega, by omega, by go_num, by go_num, HJ.out.1, HJ.out.2.1, by omega, by rw [HJ.out.2.2, addIf_true, asInts_append]; exact Ha.out, Hb1.out⟩
            case measure => simp [intOf]; omega
          · subst hfl
            have HJ := Lib.hid (jump_both (f := f) (s := s) Ca.out Cb.out HA.out HB.out hin E_x.out hkm E_y.out (v := false) rfl)
            go_wp2
            go_quiet (fail)
            go_wp2
            go_quiet (fail)
            go_wp2
            go_roundw
            case rel => exact ⟨i + 1, k + 1, x + 1, by omega, by omega, by go_num, by go_num, HJ.out.1, HJ.out.2.1, by omega, by rw [HJ.out.2.2, addIf_false]; exact Hown.out.drewN _, Hb.out.trans (Drawn.below ⟨_, rfl⟩ _)⟩
            case measure => simp [intOf]; omega
        · have hxy2 : (y : Int) < x := by omega
          rcases Bool.eq_false_or_eq_true s with hfl | hfl
          · subst hfl
            have HJ := Lib.hid (jump_second (f := f) (b := bo) Ca.out Cb.out HA.out HB.out hkm E_y.out (fun _ => by rw [E_x.out]; exact hxy) (v := true) rfl)
            go_wp2
            go_quiet (fail)
            go_wp2
            go_quiet (fail)
            go_wp2_with (at_builtin; refine wpList_append_int rfl _ _ rfl w2.heap.size _ _ rfl ((Hown.out.drewN _).alloc _) wr.heap.size ((y : Nat) : Int) rfl ?_ ?_ ?_ ?_)
            · exact alloc_head _ _ _
            · rw [length_asInts]; have := Hlen.out; omega
            · have := Hb.out.size; simp; omega
            intro v' w3 hown' hgrow
            have Ha := Lib.hid hown'
            have Hb1 := Lib.hid ((Hown.out.drewN _).grown hgrow (Hb.out.trans (Drawn.below ⟨_, rfl⟩ _)) Hb.out.size)
            clear hown' hgrow
            go_wp2
            go_roundw
            case rel => exact ⟨i, k + 1, y + 1, by omega, by omega, by go_num, by go_num, HJ.out.1, HJ.out.2.1, by omega, by rw [HJ.out.2.2, addIf_true, asInts_append]; exact Ha.out, Hb1.out⟩
            case measure => simp [intOf]; omega
          · subst hfl
            have HJ := Lib.hid (jump_second (f := f) (b := bo) Ca.out Cb.out HA.out HB.out hkm E_y.out (fun _ => by rw [E_x.out]; exact hxy) (v := false) rfl)
            go_wp2
            go_quiet (fail)
            go_wp2
            go_quiet (fail)
            go_wp2
            go_roundw
            case rel => exact ⟨i, k + 1, y + 1, by omega, by omega, by go_num, by go_num, HJ.out.1, HJ.out.2.1, by omega, by rw [HJ.out.2.2, addIf_false]; exact Hown.out.drewN _, Hb.out.trans (Drawn.below ⟨_, rfl⟩ _)⟩
            case measure => simp [intOf]; omega
      · have t2 : ((k : Int) == (B.length : Int)) = true := by rw [beq_iff_eq]; omega
        rcases Bool.eq_false_or_eq_true f with hfl | hfl
        · subst hfl
          have HJ := Lib.hid (jump_first (s := s) (b := bo) Ca.out Cb.out HA.out HB.out hin E_x.out (fun h => absurd h hkm) (v := true) rfl)
          go_wp2
          go_quiet (fail)
          go_wp2_with (at_builtin; refine wpList_append_int rfl _ _ rfl w2.heap.size _ _ rfl ((Hown.out.drewN _).alloc _) wr.heap.size ((x : Nat) : Int) rfl ?_ ?_ ?_ ?_)
          · exact alloc_head _ _ _
          · rw [length_asInts]; have := Hlen.out; omega
          · have := Hb.out.size; simp; omega
          intro v' w3 hown' hgrow
          have Ha := Lib.hid hown'
          have Hb1 := Lib.hid ((Hown.out.drewN _).grown hgrow (Hb.out.trans (Drawn.below ⟨_, rfl⟩ _)) Hb.out.size)
          clear hown' hgrow
          go_wp2
          go_roundw
          case rel => exact ⟨i + 1, k, x + 1, by omega, by omega, by go_num, by go_num, HJ.out.1, HJ.out.2.1, by omega, by rw [HJ.out.2.2, addIf_true, asInts_append]; exact Ha.out, Hb1.out⟩
          case measure => simp [intOf]; omega
        · subst hfl
          have HJ := Lib.hid (jump_first (s := s) (b := bo) Ca.out Cb.out HA.out HB.out hin E_x.out (fun h => absurd h hkm) (v := false) rfl)
          go_wp2
          go_quiet (fail)
          go_wp2
          go_roundw
          case rel => exact ⟨i + 1, k, x + 1, by omega, by omega, by go_num, by go_num, HJ.out.1, HJ.out.2.1, by omega, by rw [HJ.out.2.2, addIf_false]; exact Hown.out.drewN _, Hb.out.trans (Drawn.below ⟨_, rfl⟩ _)⟩
          case measure => simp [intOf]; omega
    · by_cases hkm : k < B.length
      · have t2 : ((k : Int) == (B.length : Int)) = false := by rw [beq_eq_false_iff_ne]; omega
        have t1 : ((i : Int) == (A.length : Int)) = true := by rw [beq_iff_eq]; omega
        obtain ⟨bl_y, off_y, rfl, hc_y⟩ := (Hib.out.below Hb.out (Nat.le_refl _)) (by rw [length_asInts]; omega)
        have ck_y := hc_y k (by rw [length_asInts]; omega)
        rw [getD_asInts] at ck_y
        have hb_y := Hbb.out _ (getD_mem (l := B) (i := k) (by omega))
        obtain ⟨y, he_y⟩ : ∃ y, B.getD k 0 = y := ⟨_, rfl⟩
        have E_y := Lib.hid he_y
        rw [he_y] at ck_y hb_y
        clear hc_y he_y
        rcases Bool.eq_false_or_eq_true s with hfl | hfl
        · subst hfl
          have HJ := Lib.hid (jump_second (f := f) (b := bo) Ca.out Cb.out HA.out HB.out hkm E_y.out (fun h => absurd h hin) (v := true) rfl)
          go_wp2
          go_quiet (fail)
          go_wp2
          go_quiet (fail)
          go_wp2_with (at_builtin; refine wpList_append_int rfl _ _ rfl w2.heap.size _ _ rfl ((Hown.out.drewN _).alloc _) wr.heap.size ((y : Nat) : Int) rfl ?_ ?_ ?_ ?_)
          · exact alloc_head _ _ _
          · rw [length_asInts]; have := Hlen.out; omega
          · have := Hb.out.size; simp; omega
          intro v' w3 hown' hgrow
          have Ha := Lib.hid hown'
          have Hb1 := Lib.hid ((Hown.out.drewN _).grown hgrow (Hb.out.trans (Drawn.below ⟨_, rfl⟩ _)) Hb.out.size)
          clear hown' hgrow
          go_wp2
          go_roundw
          case rel => exact ⟨i, k + 1, y + 1, by omega, by omega, by go_num, by go_num, HJ.out.1, HJ.out.2.1, by omega, by rw [HJ.out.2.2, addIf_true, asInts_append]; exact Ha.out, Hb1.out⟩
          case measure => simp [intOf]; omega
        · subst hfl
          have HJ := Lib.hid (jump_second (f := f) (b := bo) Ca.out Cb.out HA.out HB.out hkm E_y.out (fun h => absurd h hin) (v := false) rfl)
          go_wp2
          go_quiet (fail)
          go_wp2
          go_quiet (fail)
          go_wp2
          go_roundw
          case rel => exact ⟨i, k + 1, y + 1, by omega, by omega, by go_num, by go_num, HJ.out.1, HJ.out.2.1, by omega, by rw [HJ.out.2.2, addIf_false]; exact Hown.out.drewN _, Hb.out.trans (Drawn.below ⟨_, rfl⟩ _)⟩
          case measure => simp [intOf]; omega
      · obtain rfl : i = A.length := by omega
        obtain rfl : k = B.length := by omega
        have Hms := Lib.hid (fun x => mem_selTo (f := f) (s := s) (b := bo) Ca.out Cb.out x)
        have Hasc := Lib.hid (asc_selTo f s bo A B t)
        have Hbnd := Lib.hid (show ∀ y ∈ selTo f s bo A B t, y < 70400 from fun y hy => by
          have := List.mem_range.1 (List.mem_filter.1 hy).1; omega)
        obtain ⟨av, cv, hv, hiv⟩ := Hown.out.shape
        have hlen := Hlen.out
        obtain ⟨L, hL⟩ : ∃ L, selTo f s bo A B t = L := ⟨_, rfl⟩
        rw [hL] at Hms Hasc Hbnd hv hiv hlen
        rw [length_asInts] at hv
        subst hv
        have Hiv := Lib.hid hiv
        clear hiv hL
        go_wp2_with fail
        refine (rmake_any av cv L.length L _ rfl (by omega) Hasc.out Hbnd.out Hiv.out).mono ?_
        rintro e w5 ⟨v5, ms, rfl, hown5, hset, hb5⟩
        obtain ⟨a5, c5, rfl, hg5⟩ := hown5.good (hset.len fun y hy => Hbnd.out y hy) hset.wf
        have Hg5 := Lib.hid hg5
        have Hset := Lib.hid hset
        have hbz : Below w.heap.size w w5 := Hb2.out.trans ((Hb.out.trans (hb5.mono Hb.out.size)).mono Hb2.out.size)
        clear hown5 hb5 hg5 hset
        go_wp2_with fail
        go_ret
        refine ⟨_, _, _, rfl, Hg5.out, Hset.out.normal, fun i => ?_, hbz⟩
        rw [Bool.eq_iff_iff, Hset.out.mem, Hms.out]
        unfold selP
        have e1 : decide (i ∈ A) = mem wa i := by rw [Bool.eq_iff_iff, decide_eq_true_eq, Hma.out]
        have e2 : decide (i ∈ B) = mem wb i := by rw [Bool.eq_iff_iff, decide_eq_true_eq, Hmb.out]
        rw [e1, e2]
end Go.Proofs.YtggkhbjhhglbbaaDoor
