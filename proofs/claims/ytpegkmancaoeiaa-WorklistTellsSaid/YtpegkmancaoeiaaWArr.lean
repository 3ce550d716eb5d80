/-
  WorklistArrival: the walk of the law. Without a rank the items are those that arrived, in the order of their first arrival.
-/
import Derived.Test.YtpegkmancaoeiaaWAwake
namespace Go.Proofs.Ytpegkmancaoeiaa
open Go.RowKit Go.WideShapes
set_option linter.unusedVariables false

/-- A slice value reads as a list of numbers of 16 bits. -/
def U16s (w : World) (a : Option Addr) (ls : List Nat) : Prop :=
  0 < ls.length → ∃ b off, a = some ⟨b, off, none⟩ ∧ ∀ i, i < ls.length → w.cell? ⟨b, off + i, none⟩ = some (.int .u16 (ls.getD i 0 : Nat))
theorem U16s.below {w w' : World} {a : Option Addr} {zs : List Nat} {B : Nat} (h : U16s w a zs) (hb : Below B w w') (hB : w.heap.size ≤ B) : U16s w' a zs := fun h0 => by
  obtain ⟨b, off, rfl, hc⟩ := h h0
  have hlt := World.block_lt_of_cell? w _ (hc 0 h0)
  exact ⟨b, off, rfl, fun i hi => (hb.cell (p := ⟨b, off + i, none⟩) (by simp at hlt; simp; omega)).trans (hc i hi)⟩

def arrStep (acc : List Int) (x : Int) : List Int := if x ∈ acc then acc else acc ++ [x]
def arr (ls : List Nat) : List Int := ls.foldl (fun acc (x : Nat) => arrStep acc (x : Int)) []
theorem arr_snoc {ls : List Nat} {k : Nat} (h : k < ls.length) : arr (ls.take (k + 1)) = arrStep (arr (ls.take k)) (ls.getD k 0 : Nat) := by
  have e : ls.take (k + 1) = ls.take k ++ [ls.getD k 0] := by rw [List.take_succ_eq_append_getElem h]; simp [List.getD, h]
  unfold arr
  rw [e, List.foldl_append]; rfl
theorem length_arrStep (acc : List Int) (x : Int) : (arrStep acc x).length ≤ acc.length + 1 := by
  unfold arrStep; split <;> simp
theorem push_arr {zs : List Int} {x : Nat} (hv : QV [] zs) (hx : x < 65536) (hl : zs.length < 8192) : pushE [] zs (x : Int) = 0 ∧ pushR [] zs (x : Int) = [] ∧ pushZ [] zs (x : Int) = arrStep zs x := by
  have hi : isI [] (x : Int) = true := isI_iff.2 ⟨by omega, by rw [lim_none (by simp)]; omega⟩
  have hq := (qchk_iff _ _).2 hv
  by_cases h : (x : Int) ∈ zs
  · have h0 := pushE_in hq hi h
    exact ⟨h0, pushR_ok h0, by rw [pushZ_in h0 h]; unfold arrStep; rw [if_pos h]⟩
  · have h0 := pushE_ok hq hi h (by omega)
    refine ⟨h0, pushR_ok h0, ?_⟩
    rw [pushZ_ins h0 h]
    have : pl [] zs (x : Int) = zs.length := by unfold pl; rw [if_neg (by simp)]
    unfold arrStep ins
    rw [if_neg h, this]; simp
theorem wo_len_in {zs : List Int} {x : Int} (h : x ∈ zs) : (wo zs x).length < zs.length := by
  unfold wo
  rcases Nat.lt_or_ge (zs.filter fun y => !decide (y = x)).length zs.length with h1 | h1
  · exact h1
  · exfalso
    have h2 := List.length_filter_eq_length_iff.1 (Nat.le_antisymm (List.length_filter_le _ _) h1) x h
    simp at h2
theorem wo_len_out {zs : List Int} {x : Int} (h : ¬ x ∈ zs) : (wo zs x).length = zs.length := by
  unfold wo
  exact List.length_filter_eq_length_iff.2 fun y hy => by
    simp; rintro rfl; exact h hy

theorem without_at (a : Option Addr) (n c : Nat) (zs : List Int) (hl : zs.length = n) (x : Int) (w : World) (hn : n ≤ 10000) (hz : Ints w a zs) :
    Calls Try.prog 19 #[.slice a n c, .int .i64 x] w (WoEnd w zs x) := by
  subst hl; exact without_any a c zs x w hn hz
theorem drain_at (ra : Option Addr) (n rc : Nat) (rs : List Int) (hl : rs.length = n) (za : Option Addr) (m zc : Nat) (zs : List Int) (hm' : zs.length = m) (w : World) (hn : n ≤ maxLen) (hm : m ≤ maxLen) (hr : Ints w ra rs) (hz : Ints w za zs) (hzn : za = none → zc = 0) :
    Calls Try.prog 17 #[.agg #[.slice ra n rc, .slice za m zc]] w (DrainEnd w rs zs) := by
  subst hl hm'; exact drain_any ra rc rs za zc zs w hn hm hr hz hzn

theorem own_q2 {w2 : World} {base B : Nat} {v u u' : Value} {zs : List Int} (h : Own w2 base v zs) (hB : v.ownBlock ≠ some B) : Own ((w2.setCell ⟨B, 0, none⟩ u).setCell ⟨B, 1, none⟩ u') base v zs :=
  World.ownsRow.kept h (grown_trans (grown_setCell w2 B 0 u) (grown_setCell (w2.setCell ⟨B, 0, none⟩ u) B 1 u')) (.inr hB)
theorem QC.kept {w w' : World} {B : Nat} {u u' : Value} {row : Option Nat} (h : QC w B u u') (hg : w.grownBy w' row) (hne : some B ≠ row) : QC w' B u u' :=
  ⟨Nat.lt_of_lt_of_le h.lt hg.size, hg.cell h.c0 hne, hg.cell h.c1 hne, (hg.frozen_far ⟨B, 0, none⟩ h.lt hne).trans h.f0, (hg.frozen_far ⟨B, 1, none⟩ h.lt hne).trans h.f1⟩
theorem apart2 {wA wB : World} {B B2 : Nat} {v1 v2 : Value} {rs zs : List Int} (h1 : Own wA B v1 rs) (h2 : Own wB B2 v2 zs) (h : wA.heap.size ≤ B2) : v2.ownBlock = none ∨ v2.ownBlock ≠ v1.ownBlock := by
  cases e : v2.ownBlock with
  | none => exact .inl rfl
  | some b =>
    refine .inr fun e2 => ?_
    have a1 := (World.ownsRow.lt h1 b e2.symm).2
    have a2 := (World.ownsRow.lt h2 b e).1
    omega
structure ArrRel (w : World) (B : Nat) (ls : List Nat) (k : Nat) (want : Value) (v1 v2 : Value) (wr : World) : Prop where
  kn : k ≤ ls.length
  ow : Own wr (B + 1) want (arr (ls.take k))
  qc : QC wr B v1 v2
  o1 : Own wr w.heap.size v1 []
  n1 : v1.ownBlock ≠ some B
  o2 : Own wr (B + 1) v2 (arr (ls.take k))
  qv : QV [] (arr (ls.take k))
  len : (arr (ls.take k)).length ≤ k
  bel : Below w.heap.size w wr

set_option maxHeartbeats 4000000 in
theorem arrival_any (a : Option Addr) (c : Nat) (ls : List Nat) (w : World) (hn : ls.length ≤ maxLen) (hz : U16s w a ls) (hlt16 : ∀ i, ls.getD i 0 < 65536) :
    Calls Try.prog 5 #[.slice a ls.length c] w fun e w' => e = .returned (.bool true) ∧ Below w.heap.size w w' := by
  unfold maxLen at hn
  by_cases hbig : 200 < ls.length
  · go_enter Try.func5, Try.ntmps5
    go_wp2_with (go_at_call 8; refine (awake_any _).mono ?_; rintro e w' ⟨rfl, hb⟩)
    go_ret
    exact ⟨rfl, hb⟩
  · have Hz := Lib.hid hz
    have H16 := Lib.hid hlt16
    clear hz hlt16
    go_enter Try.func5, Try.ntmps5
    go_wp2_with fail
    refine (new_at _ 0 _ [] rfl _ (by omega) (fun h => absurd h (by simp)) (fun _ => rfl)).mono ?_
    rintro e w1 ⟨hb1, (⟨-, v1, rfl, ho1⟩ | ⟨hl, -⟩)⟩
    · obtain ⟨a1, k1, rfl, -, -⟩ := ho1.shape2
      have hs1 := hb1.size
      have H0 := Lib.hid (show ArrRel w w1.heap.size ls 0 (.slice none 0 0) (.slice a1 ([] : List Int).length k1) (.slice none 0 0) (w1.alloc (.cells #[.slice a1 ([] : List Int).length k1, .slice none 0 0] 24)) from
        ⟨Nat.zero_le _, Own.nil _ _, QC.new _ _ _ _, ho1.alloc _, ho1.ne_of_lt (Nat.le_refl _), Own.nil _ _, ⟨by simp, by simp [arr], by simp [arr], by simp [arr], fun h => absurd h (by simp)⟩, by simp [arr], hb1.alloc hs1 _⟩)
      clear hb1 ho1
      go_wp2
      go_loopw [4, 5, 6] (fun e want i wr => e = .int .i64 0 ∧ ∃ (k : Nat) (v1 v2 : Value), i = .int .i64 k ∧ ArrRel w w1.heap.size ls k want v1 v2 wr) (fun _ _ i _ => ls.length - (intOf i).toNat)
      case atStart => exact ⟨rfl, 0, _, _, rfl, H0.out⟩
      case round =>
        obtain ⟨rfl, k, v1, v2, rfl, hR⟩ := hrel
        have HR := Lib.hid hR
        have hk := hR.kn
        have hlen := hR.len
        obtain ⟨a2, k2, rfl, -, -⟩ := hR.ow.shape2
        obtain ⟨a3, k3, rfl, -, -⟩ := hR.o1.shape2
        obtain ⟨a4, k4, rfl, -, -⟩ := hR.o2.shape2
        have q0 := hR.qc.c0
        have q1 := hR.qc.c1
        have q2 := hR.qc.f0
        have q3 := hR.qc.f1
        have hBs := hR.qc.lt
        have hsz := hR.bel.size
        have Hzr := Lib.hid (Hz.out.below hR.bel (Nat.le_refl _))
        clear hR H0
        by_cases hlt : k < ls.length
        · have hsn := arr_snoc hlt
          obtain ⟨x, hx⟩ : ∃ x, ls.getD k 0 = x := ⟨_, rfl⟩
          have hx16 := H16.out k
          obtain ⟨b, off, rfl, hcell⟩ := Hzr.out (by omega)
          have ck := hcell k hlt
          rw [hx] at hsn hx16 ck
          have hbk := World.block_lt_of_cell? _ _ ck
          obtain ⟨b', off', e', hc'⟩ := Hz.out (by omega)
          cases e'
          have hckw := hc' k hlt
          rw [hx] at hckw
          have hbB := World.block_lt_of_cell? _ _ hckw
          simp at hbB
          clear hc'
          obtain ⟨he, hpr, hpz⟩ := push_arr HR.out.qv hx16 (by omega)
          have hqv := push_valid he
          rw [hpz] at hqv
          have hla := length_arrStep (arr (ls.take k)) (x : Int)
          have hwx : IntKind.i64.wrap (x : Int) = (x : Int) := IntWalk.i64_in _ (by omega)
          have H1i := Lib.hid (show Ints wr.drew a3 [] from HR.out.o1.ints)
          have H2i := Lib.hid (show Ints wr.drew a4 (arr (ls.take k)) from HR.out.o2.ints)
          have Hqd := Lib.hid (show QC wr.drew w1.heap.size _ _ from HR.out.qc.below (Drawn.below ⟨1, rfl⟩ _))
          have Hck := Lib.hid hckw
          clear hckw
          have Hqv := Lib.hid hqv
          have He := Lib.hid he
          have Hpr := Lib.hid hpr
          have Hpz := Lib.hid hpz
          have Hsn := Lib.hid hsn
          clear hcell hx he hpr hpz hqv hsn
          go_wp2
          go_region_with (first
            | (go_at_call 11; (with_reducible refine Calls.mono (push_at a3 0 k3 [] rfl a4 _ k4 (arr (ls.take k)) rfl x wr.drew (by unfold maxLen; omega) (by unfold maxLen; omega) H1i.out H2i.out HR.out.o1.nilcap HR.out.o2.nilcap) ?_); rintro e w2 ⟨v5, v6, rfl, ho5, ho6, hb2⟩; rw [He.out]; rw [Hpr.out] at ho5; rw [Hpz.out] at ho6
               obtain ⟨a5, k5, rfl, -, -⟩ := ho5.shape2; obtain ⟨a6, k6, rfl, -, -⟩ := ho6.shape2
               have hq2 := Hqd.out.below hb2
               have r0 := hq2.c0; have r1 := hq2.c1; have r2 := hq2.f0; have r3 := hq2.f1)
            | fail)
          all_goals
            have Hc0 := Lib.hid (show Below w.heap.size w w2 from HR.out.bel.trans ((Drawn.below ⟨1, rfl⟩ _).trans (hb2.mono hsz)))
            obtain ⟨W2, hW2⟩ : ∃ W2, W2 = ((w2.setCell ⟨w1.heap.size, 0, none⟩ (.slice a5 0 k5)).setCell ⟨w1.heap.size, 1, none⟩ (.slice a6 (arrStep (arr (ls.take k)) (x : Int)).length k6)) := ⟨_, rfl⟩
            have HQ := Lib.hid (show QC W2 w1.heap.size (.slice a5 0 k5) (.slice a6 (arrStep (arr (ls.take k)) (x : Int)).length k6) by rw [hW2]; exact hq2.set _ _)
            have HO5 := Lib.hid (show Own W2 (w1.heap.size + 1) (.slice a5 0 k5) [] by rw [hW2]; exact own_q (ho5.mono (by show w1.heap.size + 1 ≤ wr.heap.size; omega)) (by omega))
            have HO6 := Lib.hid (show Own W2 (w1.heap.size + 1) (.slice a6 (arrStep (arr (ls.take k)) (x : Int)).length k6) (arrStep (arr (ls.take k)) (x : Int)) by rw [hW2]; exact own_q (ho6.mono (by show w1.heap.size + 1 ≤ wr.heap.size; omega)) (by omega))
            have HOw := Lib.hid (show Own W2 (w1.heap.size + 1) (.slice a2 (arr (ls.take k)).length k2) (arr (ls.take k)) by rw [hW2]; exact own_q (Own.below (w := wr.drew) HR.out.ow hb2 (Nat.le_refl _)) (by omega))
            have HB2 := Lib.hid (show Below w.heap.size w W2 by rw [hW2]; exact (Hc0.out.setCell (by simp; omega) _).setCell (by simp; omega) _)
            have Hap := Lib.hid (apart2 HR.out.ow ho6 (Nat.le_refl _))
            have Hap5 := Lib.hid (apart2 HR.out.ow ho5 (Nat.le_refl _))
            have ck2 := (HB2.out.cell (p := ⟨b, off + k, none⟩) hbB).trans Hck.out
            have hs2 := HB2.out.size
            have hs2B := HQ.out.lt
            have HW2 := Lib.hid hW2
            clear hq2 ho5 ho6 hb2 r0 r1 r2 r3 q0 q1 q2 q3 ck hbk
            rw [← hW2]
            clear hW2
            by_cases hin : (x : Int) ∈ arr (ls.take k)
            · have hwl := wo_len_in hin
              have T := Lib.hid (show arr (ls.take (k + 1)) = arr (ls.take k) by rw [Hsn.out]; unfold arrStep; rw [if_pos hin])
              have hbt : (((wo (arr (ls.take k)) (x : Int)).length : Int) == ((arr (ls.take k)).length : Int)) = false := by rw [beq_eq_false_iff_ne]; omega
              clear hin
              go_wp2_with fail
              refine (without_at a2 _ k2 (arr (ls.take k)) rfl (x : Int) W2 (by omega) HOw.out.ints).mono ?_
              rintro e w3 ⟨v7, rfl, ho7, hb7⟩
              obtain ⟨a7, k7, rfl, -, -⟩ := ho7.shape2
              have Hb7 := Lib.hid hb7
              clear ho7 hb7
              go_wp2
              go_roundw
              case rel => exact ⟨rfl, k + 1, _, _, by go_num, by omega, by rw [T.out]; exact HOw.out.below Hb7.out (Nat.le_refl _), HQ.out.below Hb7.out, (HO5.out.below Hb7.out (Nat.le_refl _)).mono (by omega), HO5.out.ne_of_ge (by omega), by rw [Hsn.out]; exact HO6.out.below Hb7.out (Nat.le_refl _), by rw [Hsn.out]; exact Hqv.out, by rw [T.out]; omega, HB2.out.trans (Hb7.out.mono hs2)⟩
              case measure => simp [intOf]; omega
            · have hwl := wo_len_out hin
              have T := Lib.hid (show arr (ls.take (k + 1)) = arr (ls.take k) ++ [(x : Int)] by rw [Hsn.out]; unfold arrStep; rw [if_neg hin])
              have hbt : (((wo (arr (ls.take k)) (x : Int)).length : Int) == ((arr (ls.take k)).length : Int)) = true := by rw [beq_iff_eq]; omega
              clear hin hwl
              go_wp2_with fail
              refine (without_at a2 _ k2 (arr (ls.take k)) rfl (x : Int) W2 (by omega) HOw.out.ints).mono ?_
              rintro e w3 ⟨v7, rfl, ho7, hb7⟩
              obtain ⟨a7, k7, rfl, -, -⟩ := ho7.shape2
              have Hb7 := Lib.hid hb7
              have hs3 := hb7.size
              have ck3 := (hb7.cell (p := ⟨b, off + k, none⟩) (by show b < _; omega)).trans ck2
              have Ho3 := Lib.hid (HOw.out.below hb7 (Nat.le_refl _))
              clear ho7 hb7 ck2
              go_wp2_with (at_builtin; refine wpList_append_int rfl _ _ rfl (w1.heap.size + 1) _ (arr (ls.take k)) rfl (Ho3.out.alloc _) _ (x : Int) rfl (by simp) (by omega) (by simp; omega) ?_)
              intro v8 w4 h8 hg8
              have Ho8 := Lib.hid h8
              have Hg8 := Lib.hid hg8
              clear h8 hg8
              obtain ⟨a8, k8, rfl, -, -⟩ := Ho8.out.shape2
              go_wp2
              go_roundw
              case rel =>
                have hneB : some w1.heap.size ≠ (Value.slice a2 (arr (ls.take k)).length k2).ownBlock := fun e => HOw.out.ne_of_ge (by omega) e.symm
                have q5 := World.ownsRow.kept ((HO5.out.below Hb7.out (Nat.le_refl _)).alloc (.cells #[.int .i64 x] 3)) Hg8.out Hap5.out
                have q6 := World.ownsRow.kept ((HO6.out.below Hb7.out (Nat.le_refl _)).alloc (.cells #[.int .i64 x] 3)) Hg8.out Hap.out
                refine ⟨rfl, k + 1, _, _, by go_num, by omega, ?_, ((HQ.out.below Hb7.out).alloc _).kept Hg8.out hneB, Own.mono q5 (by omega), HO5.out.ne_of_ge (by omega), by rw [Hsn.out]; exact q6, by rw [Hsn.out]; exact Hqv.out, by rw [T.out, List.length_append]; simp; omega, ?_⟩
                · rw [T.out]; exact Ho8.out
                · exact (Ho3.out.mono (b := w.heap.size) (by omega)).grown Hg8.out (HB2.out.trans (Hb7.out.mono hs2)) (by omega)
              case measure => simp [intOf]; omega
        · have e0 : ls.take k = ls := List.take_of_length_le (by omega)
          have hdz : drainZ [] (arr (ls.take k)) = arr (ls.take k) := by unfold drainZ; rw [if_pos ((qchk_iff _ _).2 HR.out.qv)]
          have Hdz := Lib.hid hdz
          clear hdz e0
          go_wp2_with fail
          refine (drain_at a3 0 _ [] rfl a4 _ k4 (arr (ls.take k)) rfl wr (by unfold maxLen; omega) (by unfold maxLen; omega) HR.out.o1.ints HR.out.o2.ints HR.out.o2.nilcap).mono ?_
          rintro e w2 ⟨v7, rfl, ho7, hb7⟩
          rw [Hdz.out] at ho7
          obtain ⟨a7, k7, rfl, -, -⟩ := ho7.shape2
          go_wp2_with fail
          refine (equal_at a7 _ k7 (arr (ls.take k)) rfl a2 _ k2 (arr (ls.take k)) rfl true (eqL_self _) w2 (by unfold maxLen; omega) (by unfold maxLen; omega) ho7.ints (HR.out.ow.below hb7 (Nat.le_refl _)).ints).mono ?_
          rintro e w3 ⟨rfl, n3, rfl⟩
          go_wp2_with fail
          refine (awake_any _).mono ?_
          rintro e w4 ⟨rfl, hb4⟩
          go_wp2
          go_ret
          have hs7 := hb7.size
          exact ⟨rfl, (HR.out.bel.trans (hb7.mono hsz)).trans ((Drawn.below ⟨n3, rfl⟩ _).trans (hb4.mono (by simp; omega)))⟩
    · simp at hl
end Go.Proofs.Ytpegkmancaoeiaa
