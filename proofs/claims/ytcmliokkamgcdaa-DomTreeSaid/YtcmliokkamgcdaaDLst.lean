/-
  The closure least of semidominators: it answers the least semidominator on a way, and shortens the ways.
-/
import Derived.Test.YtcmliokkamgcdaaDIdom
import Derived.Test.YtcmliokkamgcdaaDSemi
namespace Go.Proofs.Ytcmliokkamgcdaa
open Go.RowKit
set_option linter.unusedVariables false

/-- The boxes of least, and the rows that it may turn. -/
structure LD (TB BB V T B : Nat) : Prop where
  a1 : T ≠ B
  a2 : TB ≠ T
  a3 : TB ≠ B
  a4 : BB ≠ T
  a5 : BB ≠ B
  a6 : V ≠ T
  a7 : V ≠ B
def lstF (TB BB V : Nat) : Value := .func (.func 62) #[] #[.pointer (some ⟨TB, 0, none⟩), .pointer (some ⟨BB, 0, none⟩), .pointer (some ⟨V, 0, none⟩)]
structure LS (w1 W : World) (TB BB V T B k ct cb : Nat) (tl bl : List Int) : Prop where
  kt : W.cell? ⟨TB, 0, none⟩ = some (.slice (some ⟨T, 0, none⟩) k ct)
  kb : W.cell? ⟨BB, 0, none⟩ = some (.slice (some ⟨B, 0, none⟩) k cb)
  kv : W.cell? ⟨V, 0, none⟩ = some (.func (.func 62) #[] #[.pointer (some ⟨TB, 0, none⟩), .pointer (some ⟨BB, 0, none⟩), .pointer (some ⟨V, 0, none⟩)])
  rt : Row W T T ct tl
  rb : Row W B B cb bl
  lt : tl.length = k
  lb : bl.length = k
  fr : Fr (fun q => q = T ∨ q = B) w1 W
/-- All numbers that count are natural. -/
structure NT (k : Nat) (tl bl : List Int) : Prop where
  b : ∀ j, j < k → bl.getD j 0 = (dn bl j : Int)
  t : ∀ j, 0 < j → j < k → tl.getD j 0 = (dn tl j : Int)
theorem dn_self {l : List Int} {i : Nat} (z : Nat) (h : i < l.length) : dn (l.set i (z : Int)) i = z := by
  unfold dn; rw [List.getD_eq_getElem?_getD, List.getElem?_set_self h]; rfl
theorem getD_set_self {l : List Int} {i : Nat} (z : Int) (h : i < l.length) : (l.set i z).getD i 0 = z := by
  rw [List.getD_eq_getElem?_getD, List.getElem?_set_self h]; rfl
theorem getD_set_far {l : List Int} {i j : Nat} (z : Int) (h : j ≠ i) : (l.set i z).getD j 0 = l.getD j 0 := by
  rw [List.getD_eq_getElem?_getD, List.getElem?_set_ne (Ne.symm h), ← List.getD_eq_getElem?_getD]
section
variable {w1 W W2 : World} {TB BB V T B k ct cb : Nat} {tl bl : List Int}
theorem LS.drewN (h : LS w1 W TB BB V T B k ct cb tl bl) (n : Nat) : LS w1 (W.drewN n) TB BB V T B k ct cb tl bl := ⟨h.kt, h.kb, h.kv, h.rt, h.rb, h.lt, h.lb, h.fr.drewN n⟩
theorem LS.setB (h : LS w1 W TB BB V T B k ct cb tl bl) (d : LD TB BB V T B) (i : Nat) (z : Int) : LS w1 (W.setCell ⟨B, i, none⟩ (.int .i64 z)) TB BB V T B k ct cb tl (bl.set i z) := by
  have o : ∀ q, q ≠ B → (W.setCell ⟨B, i, none⟩ (.int .i64 z)).cell? ⟨q, 0, none⟩ = W.cell? ⟨q, 0, none⟩ := fun q hq => World.cell?_setCell_other _ _ _ _ (by intro e; injection e with e1 e2; exact hq e1.symm)
  exact ⟨(o TB d.a3).trans h.kt, (o BB d.a5).trans h.kb, (o V d.a7).trans h.kv, h.rt.kept (grown_setCell W B i _) (fun e => d.a1 (by injection e)), h.rb.set i z, h.lt, by rw [List.length_set]; exact h.lb, h.fr.set B i _ (fun _ => .inr rfl)⟩
theorem LS.setT (h : LS w1 W TB BB V T B k ct cb tl bl) (d : LD TB BB V T B) (i : Nat) (z : Int) : LS w1 (W.setCell ⟨T, i, none⟩ (.int .i64 z)) TB BB V T B k ct cb (tl.set i z) bl := by
  have o : ∀ q, q ≠ T → (W.setCell ⟨T, i, none⟩ (.int .i64 z)).cell? ⟨q, 0, none⟩ = W.cell? ⟨q, 0, none⟩ := fun q hq => World.cell?_setCell_other _ _ _ _ (by intro e; injection e with e1 e2; exact hq e1.symm)
  exact ⟨(o TB d.a2).trans h.kt, (o BB d.a4).trans h.kb, (o V d.a6).trans h.kv, h.rt.set i z, h.rb.kept (grown_setCell W T i _) (fun e => d.a1 (by injection e with e; exact e.symm)), by rw [List.length_set]; exact h.lt, h.lb, h.fr.set T i _ (fun _ => .inl rfl)⟩
end
section
variable {k : Nat} {F : Nat → Nat → Prop} {p s : Nat → Nat} {tl bl : List Int} {L i up m : Nat}
theorem ways_short (t : Tr k F p) (hw : Ways k p s L (dn bl) (dn tl)) (nt : NT k tl bl) (lt : tl.length = k) (lb : bl.length = k) (hi : L < i) (hk : i < k) (hup : dn tl i = up) (hu : L < up) (hm : m = dn bl up) :
    Ways k p s L (dn (bl.set i ((min (dn bl i) m : Nat) : Int))) (dn (tl.set i ((dn tl up : Nat) : Int))) ∧ NT k (tl.set i ((dn tl up : Nat) : Int)) (bl.set i ((min (dn bl i) m : Nat) : Int)) ∧ dn (bl.set i ((min (dn bl i) m : Nat) : Int)) i = min (dn bl i) m ∧ dn (tl.set i ((dn tl up : Nat) : Int)) i = dn tl up := by
  have s1 := dn_self (l := bl) (i := i) (min (dn bl i) m) (by omega)
  have s2 := dn_self (l := tl) (i := i) (dn tl up) (by omega)
  refine ⟨hw.shorten t hi hk (by rw [hup]; exact hu) (by rw [s1, hup, hm]) (by rw [s2, hup]) (fun j hj => ⟨dn_set hj, dn_set hj⟩), ⟨fun j hj => ?_, fun j h0 hj => ?_⟩, s1, s2⟩
  · by_cases c : j = i
    · subst c; rw [s1, getD_set_self _ (by omega)]
    · rw [dn_set c, getD_set_far _ c]; exact nt.b j hj
  · by_cases c : j = i
    · subst c; rw [s2, getD_set_self _ (by omega)]
    · rw [dn_set c, getD_set_far _ c]; exact nt.t j h0 hj
end
def LR (w1 : World) (TB BB V T B k ct cb : Nat) (p s : Nat → Nat) (L i : Nat) (tl bl : List Int) (m : Nat) (W' : World) : Prop :=
  ∃ (tl' bl' : List Int), Least p s L i m ∧ LS w1 W' TB BB V T B k ct cb tl' bl' ∧ Ways k p s L (dn bl') (dn tl') ∧ NT k tl' bl' ∧ (L < i → m = dn bl' i ∧ dn tl' i ≤ L) ∧ ∀ j, i < j → bl'.getD j 0 = bl.getD j 0 ∧ tl'.getD j 0 = tl.getD j 0
def LE (w1 : World) (TB BB V T B k ct cb : Nat) (p s : Nat → Nat) (L i : Nat) (tl bl : List Int) (e : Ending) (W' : World) : Prop := ∃ m : Nat, e = .returned (.int .i64 (m : Int)) ∧ LR w1 TB BB V T B k ct cb p s L i tl bl m W'
structure DLaid (G : Prop) : Prop where
  out : G
/-- What all orders of a region have in common is shown once. -/
theorem dlater {G R : World → Nat → Prop} {T : Prop} (h : DLaid (∀ w m, R w m → G w m) → T) (p : ∀ w m, R w m → G w m) : T := h ⟨p⟩
theorem d_min_if (a b : Nat) : (if b < a then (b : Int) else (a : Int)) = ((min a b : Nat) : Int) := by split <;> omega

set_option maxHeartbeats 4000000 in
set_option maxRecDepth 100000 in
theorem least_step (w1 : World) (TB BB V T B k ct cb : Nat) (F : Nat → Nat → Prop) (p s : Nat → Nat) (d : LD TB BB V T B) (t : Tr k F p) (L i : Nat) (hk : i < k) (hk2 : k ≤ 8192)
    (IH : ∀ j, j < i → ∀ (tl bl : List Int) (W : World), LS w1 W TB BB V T B k ct cb tl bl → Ways k p s L (dn bl) (dn tl) → NT k tl bl → Calls Try.prog 62 #[.int .i64 (j : Int), .int .i64 (L : Int), .pointer (some ⟨TB, 0, none⟩), .pointer (some ⟨BB, 0, none⟩), .pointer (some ⟨V, 0, none⟩)] W (LE w1 TB BB V T B k ct cb p s L j tl bl))
    (tl bl : List Int) (W : World) (hS : LS w1 W TB BB V T B k ct cb tl bl) (hW : Ways k p s L (dn bl) (dn tl)) (hn : NT k tl bl) :
    Calls Try.prog 62 #[.int .i64 (i : Int), .int .i64 (L : Int), .pointer (some ⟨TB, 0, none⟩), .pointer (some ⟨BB, 0, none⟩), .pointer (some ⟨V, 0, none⟩)] W (LE w1 TB BB V T B k ct cb p s L i tl bl) := by
  by_cases hle : i ≤ L
  · have HS := Lib.hid hS
    have HW := Lib.hid hW
    have HN := Lib.hid hn
    clear hS hW hn IH t
    go_enter Try.func62, Try.ntmps62
    go_wp2
    go_ret
    exact ⟨i, rfl, tl, bl, .inl ⟨hle, rfl⟩, HS.out, HW.out, HN.out, fun h => by omega, fun j _ => ⟨rfl, rfl⟩⟩
  · obtain ⟨up, hup⟩ : ∃ up, dn tl i = up := ⟨_, rfl⟩
    obtain ⟨bi, hbi⟩ : ∃ bi, dn bl i = bi := ⟨_, rfl⟩
    have cT := hS.rt.cell (i := i) (by rw [hS.lt]; exact hk)
    rw [hn.t i (by omega) hk, hup] at cT
    have cB := hS.rb.cell (i := i) (by rw [hS.lb]; exact hk)
    rw [hn.b i hk, hbi] at cB
    have kt := hS.kt
    have kb := hS.kb
    have kv := hS.kv
    have hanc := hW.anc i (by omega) hk
    rw [hup] at hanc
    have hupi := hanc.2
    have HS := Lib.hid hS
    have HW := Lib.hid hW
    have HN := Lib.hid hn
    by_cases hu : up ≤ L
    · have HG := Lib.hid (hW.got (by omega) hk (by rw [hup]; exact hu))
      have Hup := Lib.hid hup
      have Hbi := Lib.hid hbi
      clear hS hW hn IH t hanc hup hbi
      go_enter Try.func62, Try.ntmps62
      go_wp2
      go_ret
      exact ⟨bi, rfl, tl, bl, .inr ⟨by omega, by rw [← Hbi.out]; exact HG.out⟩, HS.out, HW.out, HN.out, fun h => ⟨Hbi.out.symm, by rw [Hup.out]; exact hu⟩, fun j _ => ⟨rfl, rfl⟩⟩
    · have hcall := IH up hupi tl bl (W.drewN 1) (hS.drewN 1) hW hn
      have Hcall := Lib.hid hcall
      have Hup := Lib.hid hup
      have Hbi := Lib.hid hbi
      have T_ := Lib.hid t
      clear hS hW hn IH t hanc hcall hup hbi
      go_enter Try.func62, Try.ntmps62
      go_wp2
      refine wp_region_noPanic ?_
      apply dlater (R := fun w m => LR w1 TB BB V T B k ct cb p s L up tl bl m w)
      · intro key
        go_region_with ((go_at_call 62; refine Hcall.out.mono ?_; rintro e w5 ⟨m, rfl, hR⟩; obtain ⟨tl5, bl5, hLe5, hS5, hW5, hN5, hL5, hK5⟩ := id hR; have k5t := hS5.kt; have k5b := hS5.kb; have k5v := hS5.kv; have c5 := hS5.rb.cell (i := i) (by rw [hS5.lb]; exact hk); rw [(hK5 i hupi).1, HN.out.b i hk, Hbi.out] at c5; have f5 := hS5.rb.free i; have HR := Lib.hid hR; clear hR hLe5 hS5 hW5 hN5 hL5 hK5))
        all_goals exact key.out w5 m HR.out
      · intro w5 m hR
        obtain ⟨tl5, bl5, hLe5, hS5, hW5, hN5, hL5, hK5⟩ := hR
        have HLe5 := Lib.hid hLe5; have HS5 := Lib.hid hS5; have HW5 := Lib.hid hW5; have HN5 := Lib.hid hN5; have HL5 := Lib.hid hL5; have HK5 := Lib.hid hK5
        clear hLe5 hS5 hW5 hN5 hL5 hK5
        refine NoPanic.normal ?_
        have e1 : dn tl5 i = up := by unfold dn; rw [(HK5.out i hupi).2]; exact Hup.out
        have e2 : dn bl5 i = bi := by unfold dn; rw [(HK5.out i hupi).1]; exact Hbi.out
        obtain ⟨hm1, hm2⟩ := HL5.out (by omega)
        obtain ⟨s1, s2, s3, s4⟩ := ways_short T_.out HW5.out HN5.out HS5.out.lt HS5.out.lb (by omega) hk e1 (by omega) hm1
        rw [e2] at s1 s2 s3
        obtain ⟨q, hq⟩ : ∃ q, dn tl5 up = q := ⟨_, rfl⟩
        obtain ⟨b2, hb2⟩ : ∃ q, min bi m = q := ⟨_, rfl⟩
        rw [hq] at s1 s2 s4 hm2
        rw [hb2] at s1 s2 s3
        have hX : LS w1 (w5.setCell ⟨B, i, none⟩ (.int .i64 (if m < bi then (m : Int) else (bi : Int)))) TB BB V T B k ct cb tl5 (bl5.set i (b2 : Int)) := by
          have := HS5.out.setB d i ((min bi m : Nat) : Int)
          rw [d_min_if, ← hb2]; exact this
        generalize w5.setCell ⟨B, i, none⟩ (.int .i64 (if m < bi then (m : Int) else (bi : Int))) = X at *
        generalize (if m < bi then (m : Int) else (bi : Int)) = mm at *
        have k6t := hX.kt
        have k6b := hX.kb
        have c6 := hX.rt.cell (i := up) (by rw [hX.lt]; omega)
        have hq0 : tl5.getD up 0 = (q : Int) := by rw [HN5.out.t up (by omega) (by omega), hq]
        rw [hq0] at c6
        have c7 := hX.rt.cell (i := i) (by rw [hX.lt]; exact hk)
        have f7 := hX.rt.free i
        have h8 := hX.setT d i (q : Int)
        have k8 := h8.kb
        have c8 := h8.rb.cell (i := i) (by rw [h8.lb]; exact hk)
        have s5 : (bl5.set i (b2 : Int)).getD i 0 = (b2 : Int) := getD_set_self _ (by rw [HS5.out.lb]; exact hk)
        rw [s5] at c8
        have hG := s1.got (by omega) hk (by rw [s4]; exact hm2)
        rw [s3] at hG
        have hfin : ∀ n, LE w1 TB BB V T B k ct cb p s L i tl bl (.returned (.int .i64 (b2 : Int))) ((X.setCell ⟨T, i, none⟩ (.int .i64 (q : Int))).drewN n) := fun n =>
          ⟨b2, rfl, _, _, .inr ⟨by omega, hG⟩, h8.drewN n, s1, s2, fun _ => ⟨s3.symm, by rw [s4]; exact hm2⟩, fun j hj => by rw [getD_set_far _ (by omega), getD_set_far _ (by omega)]; exact HK5.out j (by omega)⟩
        have Hfin := Lib.hid hfin
        clear hfin hG s1 s2 s3 s4 s5 h8 hX hm1 hm2 e1 e2 HLe5 HS5 HW5 HN5 HL5 HK5 hq hq0 hb2 cT cB kt kb kv
        go_wp2
        go_region
        go_wp2
        go_ret
        exact Hfin.out 1
theorem least_any (w1 : World) (TB BB V T B k ct cb : Nat) (F : Nat → Nat → Prop) (p s : Nat → Nat) (d : LD TB BB V T B) (t : Tr k F p) (L : Nat) (hk2 : k ≤ 8192) :
    ∀ (n i : Nat), i < n → i < k → ∀ (tl bl : List Int) (W : World), LS w1 W TB BB V T B k ct cb tl bl → Ways k p s L (dn bl) (dn tl) → NT k tl bl → Calls Try.prog 62 #[.int .i64 (i : Int), .int .i64 (L : Int), .pointer (some ⟨TB, 0, none⟩), .pointer (some ⟨BB, 0, none⟩), .pointer (some ⟨V, 0, none⟩)] W (LE w1 TB BB V T B k ct cb p s L i tl bl)
  | 0, i, h, _ => by omega
  | n + 1, i, h, hk => fun tl bl W a b c => least_step w1 TB BB V T B k ct cb F p s d t L i hk hk2 (fun j hj => least_any w1 TB BB V T B k ct cb F p s d t L hk2 n j (by omega) (by omega)) tl bl W a b c
end Go.Proofs.Ytcmliokkamgcdaa
