/-
  WorklistRuns: the walk of the law. Each pop returns the item that is due, and the items are those that were pushed and not popped.
-/
import Derived.Test.YtpegkmancaoeiaaWLeast
namespace Go.Proofs.Ytpegkmancaoeiaa
open Go.RowKit Go.WideShapes
set_option linter.unusedVariables false

structure RunRel (w : World) (B : Nat) (rs : List Int) (n k : Nat) (l v1 v2 : Value) (zs ls : List Int) (wr : World) : Prop where
  kn : k ≤ n
  ol : Own wr (B + 1) l ls
  qc : QC wr B v1 v2
  o1 : Own wr w.heap.size v1 rs
  n1 : v1.ownBlock ≠ some B
  o2 : Own wr (B + 1) v2 zs
  inv : RunInv rs zs ls
  len : ls.length ≤ k
  bel : Below w.heap.size w wr

section
variable {B b o : Nat} {wr wp w' : World} {u0 u1 u2 : Value}
theorem keepR (hS : wp.cell? ⟨B, 0, none⟩ = some u0 ∧ wp.cell? ⟨B, 1, none⟩ = some u1 ∧ wp.cell? ⟨b, o, none⟩ = some u2 ∧ Below wr.heap.size wr wp) (hB : B < wr.heap.size) (hbo : b < wr.heap.size) (hb : Below wp.heap.size wp w') :
    w'.cell? ⟨B, 0, none⟩ = some u0 ∧ w'.cell? ⟨B, 1, none⟩ = some u1 ∧ w'.cell? ⟨b, o, none⟩ = some u2 ∧ Below wr.heap.size wr w' := by
  have hs := hS.2.2.2.size
  exact ⟨(hb.cell (p := ⟨B, 0, none⟩) (by show B < _; omega)).trans hS.1, (hb.cell (p := ⟨B, 1, none⟩) (by show B < _; omega)).trans hS.2.1, (hb.cell (p := ⟨b, o, none⟩) (by show b < _; omega)).trans hS.2.2.1, hS.2.2.2.trans (hb.mono hs)⟩
theorem keepRA (hS : wp.cell? ⟨B, 0, none⟩ = some u0 ∧ wp.cell? ⟨B, 1, none⟩ = some u1 ∧ wp.cell? ⟨b, o, none⟩ = some u2 ∧ Below wr.heap.size wr wp) (hB : B < wr.heap.size) (hbo : b < wr.heap.size) (ob : Obj) :
    (wp.alloc ob).cell? ⟨B, 0, none⟩ = some u0 ∧ (wp.alloc ob).cell? ⟨B, 1, none⟩ = some u1 ∧ (wp.alloc ob).cell? ⟨b, o, none⟩ = some u2 ∧ Below wr.heap.size wr (wp.alloc ob) :=
  keepR hS hB hbo ((Below.refl _ wp).alloc (Nat.le_refl _) ob)
theorem keepRC {g k : Nat} {v : Value} (hS : wp.cell? ⟨B, 0, none⟩ = some u0 ∧ wp.cell? ⟨B, 1, none⟩ = some u1 ∧ wp.cell? ⟨b, o, none⟩ = some u2 ∧ Below wr.heap.size wr wp) (hB : B < wr.heap.size) (hbo : b < wr.heap.size) (hg : wr.heap.size ≤ g) :
    (wp.setCell ⟨g, k, none⟩ v).cell? ⟨B, 0, none⟩ = some u0 ∧ (wp.setCell ⟨g, k, none⟩ v).cell? ⟨B, 1, none⟩ = some u1 ∧ (wp.setCell ⟨g, k, none⟩ v).cell? ⟨b, o, none⟩ = some u2 ∧ Below wr.heap.size wr (wp.setCell ⟨g, k, none⟩ v) :=
  ⟨(World.cell?_setCell_other _ _ _ _ (by simp; try omega)).trans hS.1, (World.cell?_setCell_other _ _ _ _ (by simp; try omega)).trans hS.2.1, (World.cell?_setCell_other _ _ _ _ (by simp; try omega)).trans hS.2.2.1, hS.2.2.2.setCell (p := ⟨g, k, none⟩) hg _⟩
end
theorem pop_none (ra : Option Addr) (n rc : Nat) (rs : List Int) (hl : rs.length = n) (za : Option Addr) (zc : Nat) (w : World) (hn : n ≤ maxLen) (hr : Ints w ra rs) :
    Calls Try.prog 14 #[.agg #[.slice ra n rc, .slice za 0 zc]] w (NoPop w) := by
  subst hl
  exact pop_bad ra rc rs za zc [] w hn (by simp) hr (fun h => absurd h (by simp)) (.inl rfl)
theorem least_at (ra : Option Addr) (n rc : Nat) (rs : List Int) (hl1 : rs.length = n) (la : Option Addr) (m lc : Nat) (ls : List Int) (hl2 : ls.length = m) (r : Int) (h : leastL rs ls = r) (w : World) (hn : n ≤ 8192) (hm : m ≤ 8192) (h0 : 0 < m) (hrng : 0 < rs.length → ∀ y ∈ ls, 0 ≤ y ∧ y < rs.length) (hr : Ints w ra rs) (hl : Ints w la ls) :
    Calls Try.prog 22 #[.slice ra n rc, .slice la m lc] w fun e w' => e = .returned (.int .i64 r) ∧ Below w.heap.size w w' := by
  subst hl1 hl2 h
  exact least_any ra rc rs la lc ls w hn hm h0 hrng hr hl

set_option maxHeartbeats 16000000 in
set_option maxRecDepth 100000 in
theorem runs_any (a : Option Addr) (c : Nat) (rs : List Int) (b : Option Addr) (d : Nat) (ops : List Int) (w : World) (hn : rs.length ≤ maxLen) (hz : Ints w a rs) (hnil : a = none → c = 0) (hm : ops.length ≤ maxLen) (ho : Ints w b ops) (hnil2 : b = none → d = 0) :
    Calls Try.prog 4 #[.slice a rs.length c, .slice b ops.length d] w fun e w' => e = .returned (.bool true) ∧ Below w.heap.size w w' := by
  unfold maxLen at hn hm
  clear hnil2
  by_cases hbig : 8200 < rs.length ∨ 200 < ops.length
  · clear hz hnil ho
    by_cases h1 : 8200 < rs.length
    all_goals
      try (have h2 : 200 < ops.length := by omega)
      clear hbig
      go_enter Try.func4, Try.ntmps4
      go_wp2_with (go_at_call 8; refine (awake_any _).mono ?_; rintro e w' ⟨rfl, hb⟩)
      go_ret
      exact ⟨rfl, hb⟩
  · have h1 : rs.length ≤ 8200 := by omega
    have h2 : ops.length ≤ 200 := by omega
    have Hz := Lib.hid hz
    have Ho := Lib.hid ho
    have Hnil := Lib.hid hnil
    clear hz hnil hbig ho
    go_enter Try.func4, Try.ntmps4
    go_wp2_with fail
    refine (new_at a _ c rs rfl w (by omega) Hz.out Hnil.out).mono ?_
    rintro e w1 ⟨hb1, (⟨hr81, v1, rfl, ho1⟩ | ⟨hl, rfl⟩)⟩
    · obtain ⟨a1, k1, rfl, -, -⟩ := ho1.shape2
      have hs1 := hb1.size
      have H0 := Lib.hid (show RunRel w w1.heap.size rs ops.length 0 (.slice none 0 0) (.slice a1 rs.length k1) (.slice none 0 0) [] [] (w1.alloc (.cells #[.slice a1 rs.length k1, .slice none 0 0] 24)) from
        ⟨Nat.zero_le _, Own.nil _ _, QC.new _ _ _ _, ho1.alloc _, ho1.ne_of_lt (Nat.le_refl _), Own.nil _ _, ⟨⟨hr81, by simp, by simp, by simp, fun _ => by simp⟩, by simp, by simp, fun _ => rfl⟩, by simp, hb1.alloc hs1 _⟩)
      clear hb1 ho1
      go_wp2
      go_loopw [7, 8, 9, 10, 11, 12, 13, 14] (fun l i _ _ _ _ _ _ wr => ∃ (k : Nat) (v1 v2 : Value) (zs ls : List Int), i = .int .i64 k ∧ RunRel w w1.heap.size rs ops.length k l v1 v2 zs ls wr) (fun _ i _ _ _ _ _ _ _ => ops.length - (intOf i).toNat)
      case atStart => exact ⟨0, _, _, _, _, rfl, H0.out⟩
      case round =>
        obtain ⟨k, v1, v2, zs, ls, rfl, hR⟩ := hrel
        have HR := Lib.hid hR
        have hk := hR.kn
        have hlen := hR.len
        obtain ⟨a2, k2, rfl, -, -⟩ := hR.ol.shape2
        obtain ⟨a3, k3, rfl, -, -⟩ := hR.o1.shape2
        obtain ⟨a4, k4, rfl, -, -⟩ := hR.o2.shape2
        have Heq := Lib.hid hR.inv.len
        have hzl : zs.length ≤ 200 := by have := hR.inv.len; omega
        have q0 := hR.qc.c0
        have q1 := hR.qc.c1
        have q2 := hR.qc.f0
        have q3 := hR.qc.f1
        have hBs := hR.qc.lt
        have hsz := hR.bel.size
        clear hR H0
        by_cases hlt : k < ops.length
        · obtain ⟨bo, oo, rfl, hco⟩ := Ho.out (by omega)
          have ckw := hco k hlt
          have hbw := World.block_lt_of_cell? _ _ ckw
          simp at hbw
          have ck := (HR.out.bel.cell (p := ⟨bo, oo + k, none⟩) hbw).trans ckw
          obtain ⟨x, hx⟩ : ∃ x, ops.getD k 0 = x := ⟨_, rfl⟩
          rw [hx] at ck ckw
          have Hck := Lib.hid ckw
          clear hco hx ckw
          by_cases hneg : x < 0
          · cases zs with
            | nil =>
              have hl0 : ls = [] := List.eq_nil_of_length_eq_zero (by rw [Heq.out]; rfl)
              subst hl0
              go_wp2_with fail
              refine (pop_none a3 _ k3 rs rfl a4 k4 wr (by unfold maxLen; omega) HR.out.o1.ints).mono ?_
              rintro e w2 ⟨rfl, hb2⟩
              have Hb2 := Lib.hid hb2
              clear hb2
              go_wp2
              go_roundw
              case rel =>
                have hb3 : Below wr.heap.size wr (w2.alloc (.cells #[.slice none 0 0, .slice none 0 0] 24)) := Hb2.out.alloc Hb2.out.size _
                exact ⟨k + 1, _, _, [], [], by go_num, by omega, HR.out.ol.below hb3 (Nat.le_refl _), HR.out.qc.below hb3, HR.out.o1.below hb3 (Nat.le_refl _), HR.out.n1, HR.out.o2.below hb3 (Nat.le_refl _), HR.out.inv, by simp, HR.out.bel.trans (hb3.mono hsz)⟩
              case measure => simp [intOf]; omega
            | cons z ts =>
              have hlp : 0 < ls.length := by rw [Heq.out]; simp
              have hlpi : (0 : Int) < (ls.length : Int) := by omega
              have hlst := HR.out.inv.least
              have hrng : 0 < rs.length → ∀ y ∈ ls, 0 ≤ y ∧ y < rs.length := fun h y hy => by
                have := HR.out.inv.qv.rng y ((HR.out.inv.mem y).1 hy)
                rwa [isI_iff, lim_rank h] at this
              have Hlst := Lib.hid hlst
              have Hrng := Lib.hid hrng
              have hpop := HR.out.inv.pop
              have Hpop := Lib.hid hpop
              have hwl := length_wo ls z
              obtain ⟨n0, hn0⟩ : ∃ n0, (z :: ts).length = n0 := ⟨_, rfl⟩
              rw [hn0] at q1 HR hzl
              have Hn0 := Lib.hid hn0
              clear hlst hrng hpop hn0
              go_wp2_with fail
              refine (pop_at a3 _ k3 rs rfl a4 k4 n0 z ts wr Hn0.out HR.out.inv.qv HR.out.o1.ints HR.out.o2.ints HR.out.o1.nilcap HR.out.o2.cap.1 HR.out.o2.cap.2).mono ?_
              rintro e w2 ⟨v5, v6, rfl, ho5, ho6, hb2⟩
              obtain ⟨a5, k5, rfl, -, -⟩ := ho5.shape2
              obtain ⟨a6, k6, rfl, -, -⟩ := ho6.shape2
              have hs2 := hb2.size
              have Hq2 := Lib.hid (QC.new w2 (.slice a5 rs.length k5) (.slice a6 ts.length k6) 24)
              have Hqb := Lib.hid ((HR.out.qc.below hb2).alloc (.cells #[.slice a5 rs.length k5, .slice a6 ts.length k6] 24))
              have Hol := Lib.hid ((HR.out.ol.below hb2 (Nat.le_refl _)).alloc (.cells #[.slice a5 rs.length k5, .slice a6 ts.length k6] 24))
              have Ho5 := Lib.hid (ho5.alloc (.cells #[.slice a5 rs.length k5, .slice a6 ts.length k6] 24))
              have Ho6 := Lib.hid (ho6.alloc (.cells #[.slice a5 rs.length k5, .slice a6 ts.length k6] 24))
              have Hb3 := Lib.hid ((HR.out.bel.trans (hb2.mono hsz)).alloc (by omega) (.cells #[.slice a5 rs.length k5, .slice a6 ts.length k6] 24))
              clear ho5 ho6 hb2 q0 q1 q2 q3
              go_wp2_with fail
              refine (least_at a _ c rs rfl a2 _ k2 ls rfl z Hlst.out _ hr81 (by omega) hlp Hrng.out (Hz.out.below Hb3.out (Nat.le_refl _)) Hol.out.ints).mono ?_
              rintro e w4 ⟨rfl, hb4⟩
              have hq4 := Hq2.out.below hb4
              have Hq4 := Lib.hid hq4
              have Hqb4 := Lib.hid (Hqb.out.below hb4)
              have Hol4 := Lib.hid (Hol.out.below hb4 (Nat.le_refl _))
              have Ho54 := Lib.hid (Ho5.out.below hb4 (Nat.le_refl _))
              have Ho64 := Lib.hid (Ho6.out.below hb4 (Nat.le_refl _))
              have Hb4 := Lib.hid (Hb3.out.trans (hb4.mono (by simp; omega)))
              have hs4 : w2.heap.size < w4.heap.size := hq4.lt
              clear hb4 hq4
              go_wp2_with fail
              refine (without_at a2 _ k2 ls rfl z _ (by omega) Hol4.out.ints).mono ?_
              rintro e w5 ⟨v7, rfl, ho7, hb5⟩
              obtain ⟨a7, k7, rfl, -, -⟩ := ho7.shape2
              have hq5 := Hq4.out.below hb5
              have hqb5 := Hqb4.out.below hb5
              have p0 := hq5.c0
              have p1 := hq5.c1
              have r0 := hqb5.c0
              have r1 := hqb5.c1
              have r2 := hqb5.f0
              have r3 := hqb5.f1
              have Hqb5 := Lib.hid hqb5
              have Ho55 := Lib.hid (Ho54.out.below hb5 (Nat.le_refl _))
              have Ho65 := Lib.hid (Ho64.out.below hb5 (Nat.le_refl _))
              have Ho7 := Lib.hid ho7
              have Hb5 := Lib.hid (Hb4.out.trans (hb5.mono (by omega)))
              clear hb5 hq5 hqb5 ho7
              go_wp2
              go_roundw
              case rel => exact ⟨k + 1, _, _, _, _, by go_num, by omega, own_q (Ho7.out.mono (by omega)) (by omega), Hqb5.out.set _ _, Own.mono (own_q (Ho55.out.mono (b := w1.heap.size + 1) (by omega)) (by omega)) (by omega), Ho55.out.ne_of_ge (by omega),
                own_q (Ho65.out.mono (by omega)) (by omega), Hpop.out, by omega, (Hb5.out.setCell (by simp; omega) _).setCell (by simp; omega) _⟩
              case measure => simp [intOf]; omega
          · have hx0 : 0 ≤ x := by omega
            have HQ0 := Lib.hid ((qchk_iff _ _).2 HR.out.inv.qv)
            have hbr : bo < wr.heap.size := by omega
            by_cases hr0 : 0 < rs.length
            · have hlm := lim_rank hr0
              by_cases hxl : x < lim rs
              · have hx1 : x < (rs.length : Int) := by omega
                have hx2 : ¬ (rs.length : Int) ≤ x := by omega
                have HxL := Lib.hid hxl
                clear hlm hxl
                have hi := isI_iff.2 ⟨hx0, HxL.out⟩
                have he0 : pushE rs zs x = 0 := by
                  by_cases hc : x ∈ zs
                  · exact pushE_in HQ0.out hi hc
                  · exact pushE_ok HQ0.out hi hc (by omega)
                have He := Lib.hid he0
                have Hpr := Lib.hid (pushR_ok he0)
                obtain ⟨zs2, hzs2⟩ : ∃ zs2, pushZ rs zs x = zs2 := ⟨_, rfl⟩
                have Hpz := Lib.hid hzs2
                clear hi he0 hzs2
                go_wp2
                have hS0 : wr.drew.cell? ⟨w1.heap.size, 0, none⟩ = some (.slice a3 rs.length k3) ∧ wr.drew.cell? ⟨w1.heap.size, 1, none⟩ = some (.slice a4 zs.length k4) ∧ wr.drew.cell? ⟨bo, oo + k, none⟩ = some (.int .i64 x) ∧ Below wr.heap.size wr wr.drew := ⟨q0, q1, ck, Drawn.below ⟨1, rfl⟩ _⟩
                have HA := Lib.hid (fun o => keepRA hS0 hBs hbr o : ∀ o, (wr.alloc o).drew.cell? ⟨w1.heap.size, 0, none⟩ = some (.slice a3 rs.length k3) ∧ (wr.alloc o).drew.cell? ⟨w1.heap.size, 1, none⟩ = some (.slice a4 zs.length k4) ∧ (wr.alloc o).drew.cell? ⟨bo, oo + k, none⟩ = some (.int .i64 x) ∧ Below wr.heap.size wr (wr.alloc o).drew)
                go_region_held3 (fun w' => w'.cell? ⟨w1.heap.size, 0, none⟩ = some (.slice a3 rs.length k3) ∧ w'.cell? ⟨w1.heap.size, 1, none⟩ = some (.slice a4 zs.length k4) ∧ w'.cell? ⟨bo, oo + k, none⟩ = some (.int .i64 x) ∧ Below wr.heap.size wr w')
                  (first
                    | (with_reducible exact hS0)
                    | exact HA.out _
                    | (with_reducible exact keepR (by assumption) hBs hbr hb2)
                    | (with_reducible exact keepRA (by assumption) hBs hbr _)
                    | (with_reducible exact keepRA (keepR hS0 hBs hbr hb2) hBs hbr _)
                    | (with_reducible exact keepRC (keepRC (by assumption) hBs hbr (Nat.le_refl _)) hBs hbr (Nat.le_refl _))
                    | fail)
                  (first
                    | (go_at_call 11; (with_reducible refine Calls.mono (push_at a3 _ k3 rs rfl a4 _ k4 zs rfl x _ (by unfold maxLen; omega) (by unfold maxLen; omega) (HR.out.o1.ints.below (by exact (by assumption : _ ∧ _ ∧ _ ∧ _).2.2.2) (Nat.le_refl _)) (HR.out.o2.ints.below (by exact (by assumption : _ ∧ _ ∧ _ ∧ _).2.2.2) (Nat.le_refl _)) HR.out.o1.nilcap HR.out.o2.nilcap) ?_); rintro e w2 ⟨v5, v6, rfl, ho5, ho6, hb2⟩; rw [He.out]; rw [Hpr.out] at ho5; rw [Hpz.out] at ho6
                       obtain ⟨a5, k5, rfl, -, -⟩ := ho5.shape2; obtain ⟨a6, k6, rfl, -, -⟩ := ho6.shape2
                       obtain ⟨m1, m2⟩ := bcell hb2; have m3 := hb2.size; (try simp at m3); (try rw [Nat.add_one_le_iff] at m3))
                    | fail)
                · obtain ⟨W2, hW2⟩ : ∃ W2, W2 = w2.alloc (.cells #[.slice a5 rs.length k5, .slice a6 zs2.length k6] 24) := ⟨_, rfl⟩
                  have HbW := Lib.hid (show Below wr.heap.size wr W2 by rw [hW2]; exact ((Drawn.below ⟨1, rfl⟩ _).trans hb2).alloc hb2.size _)
                  have hqp : QC W2 w2.heap.size (.slice a5 rs.length k5) (.slice a6 zs2.length k6) := by rw [hW2]; exact QC.new _ _ _ _
                  have Ho5 := Lib.hid (show Own W2 wr.heap.size (.slice a5 rs.length k5) rs by rw [hW2]; exact ho5.alloc _)
                  have Ho6 := Lib.hid (show Own W2 wr.heap.size (.slice a6 zs2.length k6) zs2 by rw [hW2]; exact ho6.alloc _)
                  rw [← hW2]
                  have hBp : wr.heap.size ≤ w2.heap.size := hb2.size
                  clear hW2 ho5 ho6 hb2 m1 m2 m3
                  generalize w2.heap.size = Bp at *
                  have Hqp := Lib.hid hqp
                  have p0 := hqp.c0
                  have p1 := hqp.c1
                  have Hqb := Lib.hid (HR.out.qc.below HbW.out)
                  have Hol := Lib.hid (HR.out.ol.below HbW.out (Nat.le_refl _))
                  have Hap5 := Lib.hid (apart2 HR.out.ol Ho5.out (Nat.le_refl _))
                  have Hap6 := Lib.hid (apart2 HR.out.ol Ho6.out (Nat.le_refl _))
                  have hneL : some (Bp) ≠ (Value.slice a2 ls.length k2).ownBlock := fun e => by have := (World.ownsRow.lt HR.out.ol (Bp) e.symm).2; omega
                  have HneL := Lib.hid hneL
                  have hneB : some w1.heap.size ≠ (Value.slice a2 ls.length k2).ownBlock := fun e => HR.out.ol.ne_of_ge (by omega) e.symm
                  have HneB := Lib.hid hneB
                  have HB2 := Lib.hid (HR.out.bel.trans (HbW.out.mono hsz))
                  have hsW := HbW.out.size
                  have ck2 := (HbW.out.cell (p := ⟨bo, oo + k, none⟩) hbr).trans ck
                  have HPp := Lib.hid (HR.out.inv.push He.out)
                  rw [Hpz.out] at HPp
                  clear hqp hneL hneB q0 q1 q2 q3 hS0 HA
                  by_cases hin : x ∈ ls
                  · have hwl := wo_len_in hin
                    have hbt : (((wo ls x).length : Int) == (ls.length : Int)) = false := by rw [beq_eq_false_iff_ne]; omega
                    rw [if_pos hin] at HPp
                    clear hin
                    go_wp2_with fail
                    refine (without_at a2 _ k2 ls rfl x W2 (by omega) Hol.out.ints).mono ?_
                    rintro e w3 ⟨v7, rfl, ho7, hb7⟩
                    obtain ⟨a7, k7, rfl, -, -⟩ := ho7.shape2
                    have hq3 := Hqp.out.below hb7
                    have hqb3 := Hqb.out.below hb7
                    have s0 := hq3.c0
                    have s1 := hq3.c1
                    have r0 := hqb3.c0
                    have r1 := hqb3.c1
                    have r2 := hqb3.f0
                    have r3 := hqb3.f1
                    have Hqb3 := Lib.hid hqb3
                    have Hb7 := Lib.hid hb7
                    clear ho7 hb7 hq3 hqb3 p0 p1 ck2
                    go_wp2
                    go_roundw
                    case rel => exact ⟨k + 1, _, _, _, _, by go_num, by omega, own_q (Hol.out.below Hb7.out (Nat.le_refl _)) (by omega), Hqb3.out.set _ _, Own.mono (own_q ((Ho5.out.below Hb7.out (Nat.le_refl _)).mono (b := w1.heap.size + 1) (by omega)) (by omega)) (by omega), Ho5.out.ne_of_ge (by omega),
                      own_q ((Ho6.out.below Hb7.out (Nat.le_refl _)).mono (b := w1.heap.size + 1) (by omega)) (by omega), HPp.out, by omega, ((HB2.out.trans (Hb7.out.mono (by omega))).setCell (by simp; omega) _).setCell (by simp; omega) _⟩
                    case measure => simp [intOf]; omega
                  · have hwl := wo_len_out hin
                    have hbt : (((wo ls x).length : Int) == (ls.length : Int)) = true := by rw [beq_iff_eq]; omega
                    rw [if_neg hin] at HPp
                    clear hin hwl
                    go_wp2_with fail
                    refine (without_at a2 _ k2 ls rfl x W2 (by omega) Hol.out.ints).mono ?_
                    rintro e w3 ⟨v7, rfl, ho7, hb7⟩
                    obtain ⟨a7, k7, rfl, -, -⟩ := ho7.shape2
                    have Hb7 := Lib.hid hb7
                    have hs3 := hb7.size
                    have ck3 := (hb7.cell (p := ⟨bo, oo + k, none⟩) (by show bo < _; omega)).trans ck2
                    have Hol3 := Lib.hid (Hol.out.below hb7 (Nat.le_refl _))
                    clear ho7 hb7 ck2 p0 p1
                    go_wp2_with (at_builtin; refine wpList_append_int rfl _ _ rfl (w1.heap.size + 1) _ ls rfl (Hol3.out.alloc _) _ x rfl (by simp) (by omega) (by simp; omega) ?_)
                    intro v8 w4 h8 hg8
                    have Ho8 := Lib.hid h8
                    have Hg8 := Lib.hid hg8
                    have hq4 := ((Hqp.out.below Hb7.out).alloc (.cells #[.int .i64 x] 3)).kept hg8 HneL.out
                    have hqb4 := ((Hqb.out.below Hb7.out).alloc (.cells #[.int .i64 x] 3)).kept hg8 HneB.out
                    have s0 := hq4.c0
                    have s1 := hq4.c1
                    have r0 := hqb4.c0
                    have r1 := hqb4.c1
                    have r2 := hqb4.f0
                    have r3 := hqb4.f1
                    have Hqb4 := Lib.hid hqb4
                    have q5 := Lib.hid (show Own w4 wr.heap.size (.slice a5 rs.length k5) rs from World.ownsRow.kept ((Ho5.out.below Hb7.out (Nat.le_refl _)).alloc (.cells #[.int .i64 x] 3)) hg8 Hap5.out)
                    have q6 := Lib.hid (show Own w4 wr.heap.size (.slice a6 zs2.length k6) zs2 from World.ownsRow.kept ((Ho6.out.below Hb7.out (Nat.le_refl _)).alloc (.cells #[.int .i64 x] 3)) hg8 Hap6.out)
                    have Hb4 := Lib.hid ((Hol3.out.mono (b := w.heap.size) (by omega)).grown hg8 (HB2.out.trans (Hb7.out.mono (by omega))) (by omega))
                    clear h8 hg8 hq4 hqb4
                    obtain ⟨a8, k8, rfl, -, -⟩ := Ho8.out.shape2
                    go_wp2
                    go_roundw
                    case rel => exact ⟨k + 1, _, _, _, _, by go_num, by omega, own_q Ho8.out (by omega), Hqb4.out.set _ _, Own.mono (own_q (q5.out.mono (b := w1.heap.size + 1) (by omega)) (by omega)) (by omega), q5.out.ne_of_ge (by omega),
                      own_q (q6.out.mono (b := w1.heap.size + 1) (by omega)) (by omega), HPp.out, by rw [List.length_append]; simp; omega, (Hb4.out.setCell (by simp; omega) _).setCell (by simp; omega) _⟩
                    case measure => simp [intOf]; omega
                · have hq9 := ((QC.new wr (.slice none 0 0) (.slice none 0 0) 24).below (Drawn.below ⟨1, rfl⟩ _)).below hb2
                  obtain ⟨W2, hW2⟩ : ∃ W2, W2 = ((w2.setCell ⟨wr.heap.size, 0, none⟩ (.slice a5 rs.length k5)).setCell ⟨wr.heap.size, 1, none⟩ (.slice a6 zs2.length k6)) := ⟨_, rfl⟩
                  have HbW := Lib.hid (show Below wr.heap.size wr W2 by rw [hW2]; exact (((((Below.refl _ wr).alloc (Nat.le_refl _) _).trans (Drawn.below ⟨1, rfl⟩ _)).trans (hb2.mono (by show wr.heap.size ≤ (wr.alloc _).heap.size; simp))).setCell (Nat.le_refl _) _).setCell (Nat.le_refl _) _)
                  have hqp : QC W2 wr.heap.size (.slice a5 rs.length k5) (.slice a6 zs2.length k6) := by rw [hW2]; exact hq9.set _ _
                  have Ho5 := Lib.hid (show Own W2 wr.heap.size (.slice a5 rs.length k5) rs by rw [hW2]; exact Own.mono (own_q (ho5.mono (b := wr.heap.size + 1) (by show wr.heap.size + 1 ≤ (wr.alloc _).heap.size; simp)) (by omega)) (by omega))
                  have Ho6 := Lib.hid (show Own W2 wr.heap.size (.slice a6 zs2.length k6) zs2 by rw [hW2]; exact Own.mono (own_q (ho6.mono (b := wr.heap.size + 1) (by show wr.heap.size + 1 ≤ (wr.alloc _).heap.size; simp)) (by omega)) (by omega))
                  rw [← hW2]
                  have hBp : wr.heap.size ≤ wr.heap.size := Nat.le_refl _
                  clear hW2 hq9 ho5 ho6 hb2 m1 m2 m3
                  have Hqp := Lib.hid hqp
                  have p0 := hqp.c0
                  have p1 := hqp.c1
                  have Hqb := Lib.hid (HR.out.qc.below HbW.out)
                  have Hol := Lib.hid (HR.out.ol.below HbW.out (Nat.le_refl _))
                  have Hap5 := Lib.hid (apart2 HR.out.ol Ho5.out (Nat.le_refl _))
                  have Hap6 := Lib.hid (apart2 HR.out.ol Ho6.out (Nat.le_refl _))
                  have hneL : some (wr.heap.size) ≠ (Value.slice a2 ls.length k2).ownBlock := fun e => by have := (World.ownsRow.lt HR.out.ol (wr.heap.size) e.symm).2; omega
                  have HneL := Lib.hid hneL
                  have hneB : some w1.heap.size ≠ (Value.slice a2 ls.length k2).ownBlock := fun e => HR.out.ol.ne_of_ge (by omega) e.symm
                  have HneB := Lib.hid hneB
                  have HB2 := Lib.hid (HR.out.bel.trans (HbW.out.mono hsz))
                  have hsW := HbW.out.size
                  have ck2 := (HbW.out.cell (p := ⟨bo, oo + k, none⟩) hbr).trans ck
                  have HPp := Lib.hid (HR.out.inv.push He.out)
                  rw [Hpz.out] at HPp
                  clear hqp hneL hneB q0 q1 q2 q3 hS0 HA
                  by_cases hin : x ∈ ls
                  · have hwl := wo_len_in hin
                    have hbt : (((wo ls x).length : Int) == (ls.length : Int)) = false := by rw [beq_eq_false_iff_ne]; omega
                    rw [if_pos hin] at HPp
                    clear hin
                    go_wp2_with fail
                    refine (without_at a2 _ k2 ls rfl x W2 (by omega) Hol.out.ints).mono ?_
                    rintro e w3 ⟨v7, rfl, ho7, hb7⟩
                    obtain ⟨a7, k7, rfl, -, -⟩ := ho7.shape2
                    have hq3 := Hqp.out.below hb7
                    have hqb3 := Hqb.out.below hb7
                    have s0 := hq3.c0
                    have s1 := hq3.c1
                    have r0 := hqb3.c0
                    have r1 := hqb3.c1
                    have r2 := hqb3.f0
                    have r3 := hqb3.f1
                    have Hqb3 := Lib.hid hqb3
                    have Hb7 := Lib.hid hb7
                    clear ho7 hb7 hq3 hqb3 p0 p1 ck2
                    go_wp2
                    go_roundw
                    case rel => exact ⟨k + 1, _, _, _, _, by go_num, by omega, own_q (Hol.out.below Hb7.out (Nat.le_refl _)) (by omega), Hqb3.out.set _ _, Own.mono (own_q ((Ho5.out.below Hb7.out (Nat.le_refl _)).mono (b := w1.heap.size + 1) (by omega)) (by omega)) (by omega), Ho5.out.ne_of_ge (by omega),
                      own_q ((Ho6.out.below Hb7.out (Nat.le_refl _)).mono (b := w1.heap.size + 1) (by omega)) (by omega), HPp.out, by omega, ((HB2.out.trans (Hb7.out.mono (by omega))).setCell (by simp; omega) _).setCell (by simp; omega) _⟩
                    case measure => simp [intOf]; omega
                  · have hwl := wo_len_out hin
                    have hbt : (((wo ls x).length : Int) == (ls.length : Int)) = true := by rw [beq_iff_eq]; omega
                    rw [if_neg hin] at HPp
                    clear hin hwl
                    go_wp2_with fail
                    refine (without_at a2 _ k2 ls rfl x W2 (by omega) Hol.out.ints).mono ?_
                    rintro e w3 ⟨v7, rfl, ho7, hb7⟩
                    obtain ⟨a7, k7, rfl, -, -⟩ := ho7.shape2
                    have Hb7 := Lib.hid hb7
                    have hs3 := hb7.size
                    have ck3 := (hb7.cell (p := ⟨bo, oo + k, none⟩) (by show bo < _; omega)).trans ck2
                    have Hol3 := Lib.hid (Hol.out.below hb7 (Nat.le_refl _))
                    clear ho7 hb7 ck2 p0 p1
                    go_wp2_with (at_builtin; refine wpList_append_int rfl _ _ rfl (w1.heap.size + 1) _ ls rfl (Hol3.out.alloc _) _ x rfl (by simp) (by omega) (by simp; omega) ?_)
                    intro v8 w4 h8 hg8
                    have Ho8 := Lib.hid h8
                    have Hg8 := Lib.hid hg8
                    have hq4 := ((Hqp.out.below Hb7.out).alloc (.cells #[.int .i64 x] 3)).kept hg8 HneL.out
                    have hqb4 := ((Hqb.out.below Hb7.out).alloc (.cells #[.int .i64 x] 3)).kept hg8 HneB.out
                    have s0 := hq4.c0
                    have s1 := hq4.c1
                    have r0 := hqb4.c0
                    have r1 := hqb4.c1
                    have r2 := hqb4.f0
                    have r3 := hqb4.f1
                    have Hqb4 := Lib.hid hqb4
                    have q5 := Lib.hid (show Own w4 wr.heap.size (.slice a5 rs.length k5) rs from World.ownsRow.kept ((Ho5.out.below Hb7.out (Nat.le_refl _)).alloc (.cells #[.int .i64 x] 3)) hg8 Hap5.out)
                    have q6 := Lib.hid (show Own w4 wr.heap.size (.slice a6 zs2.length k6) zs2 from World.ownsRow.kept ((Ho6.out.below Hb7.out (Nat.le_refl _)).alloc (.cells #[.int .i64 x] 3)) hg8 Hap6.out)
                    have Hb4 := Lib.hid ((Hol3.out.mono (b := w.heap.size) (by omega)).grown hg8 (HB2.out.trans (Hb7.out.mono (by omega))) (by omega))
                    clear h8 hg8 hq4 hqb4
                    obtain ⟨a8, k8, rfl, -, -⟩ := Ho8.out.shape2
                    go_wp2
                    go_roundw
                    case rel => exact ⟨k + 1, _, _, _, _, by go_num, by omega, own_q Ho8.out (by omega), Hqb4.out.set _ _, Own.mono (own_q (q5.out.mono (b := w1.heap.size + 1) (by omega)) (by omega)) (by omega), q5.out.ne_of_ge (by omega),
                      own_q (q6.out.mono (b := w1.heap.size + 1) (by omega)) (by omega), HPp.out, by rw [List.length_append]; simp; omega, (Hb4.out.setCell (by simp; omega) _).setCell (by simp; omega) _⟩
                    case measure => simp [intOf]; omega
              · have hx1 : (rs.length : Int) ≤ x := by omega
                have HxL := Lib.hid hxl
                clear hlm hxl
                have He := Lib.hid (pushE_rng HQ0.out (show isI rs x = false from isI_not.2 (.inr (by have := HxL.out; omega))))
                have Hpr := Lib.hid (pushR_no (rs := rs) (zs := zs) (x := x) (by rw [He.out]; omega))
                have Hpz := Lib.hid (pushZ_no (rs := rs) (zs := zs) (x := x) (by rw [He.out]; omega))
                go_wp2
                have hS0 : wr.drew.cell? ⟨w1.heap.size, 0, none⟩ = some (.slice a3 rs.length k3) ∧ wr.drew.cell? ⟨w1.heap.size, 1, none⟩ = some (.slice a4 zs.length k4) ∧ wr.drew.cell? ⟨bo, oo + k, none⟩ = some (.int .i64 x) ∧ Below wr.heap.size wr wr.drew := ⟨q0, q1, ck, Drawn.below ⟨1, rfl⟩ _⟩
                have HA := Lib.hid (fun o => keepRA hS0 hBs hbr o : ∀ o, (wr.alloc o).drew.cell? ⟨w1.heap.size, 0, none⟩ = some (.slice a3 rs.length k3) ∧ (wr.alloc o).drew.cell? ⟨w1.heap.size, 1, none⟩ = some (.slice a4 zs.length k4) ∧ (wr.alloc o).drew.cell? ⟨bo, oo + k, none⟩ = some (.int .i64 x) ∧ Below wr.heap.size wr (wr.alloc o).drew)
                go_region_held3 (fun w' => w'.cell? ⟨w1.heap.size, 0, none⟩ = some (.slice a3 rs.length k3) ∧ w'.cell? ⟨w1.heap.size, 1, none⟩ = some (.slice a4 zs.length k4) ∧ w'.cell? ⟨bo, oo + k, none⟩ = some (.int .i64 x) ∧ Below wr.heap.size wr w')
                  (first
                    | (with_reducible exact hS0)
                    | exact HA.out _
                    | (with_reducible exact keepR (by assumption) hBs hbr hb2)
                    | (with_reducible exact keepRA (by assumption) hBs hbr _)
                    | (with_reducible exact keepRA (keepR hS0 hBs hbr hb2) hBs hbr _)
                    | (with_reducible exact keepRC (keepRC (by assumption) hBs hbr (Nat.le_refl _)) hBs hbr (Nat.le_refl _))
                    | fail)
                  (first
                    | (go_at_call 11; (with_reducible refine Calls.mono (push_at a3 _ k3 rs rfl a4 _ k4 zs rfl x _ (by unfold maxLen; omega) (by unfold maxLen; omega) (HR.out.o1.ints.below (by exact (by assumption : _ ∧ _ ∧ _ ∧ _).2.2.2) (Nat.le_refl _)) (HR.out.o2.ints.below (by exact (by assumption : _ ∧ _ ∧ _ ∧ _).2.2.2) (Nat.le_refl _)) HR.out.o1.nilcap HR.out.o2.nilcap) ?_); rintro e w2 ⟨v5, v6, rfl, ho5, ho6, hb2⟩; rw [He.out]; rw [Hpr.out] at ho5; rw [Hpz.out] at ho6
                       obtain ⟨a5, k5, rfl, -, -⟩ := ho5.shape2; obtain ⟨a6, k6, rfl, -, -⟩ := ho6.shape2
                       obtain ⟨m1, m2⟩ := bcell hb2; have m3 := hb2.size; (try simp at m3); (try rw [Nat.add_one_le_iff] at m3))
                    | fail)
                all_goals
                  have hbW := (by assumption : (World.cell? _ _ = _) ∧ (World.cell? _ _ = _) ∧ (World.cell? _ _ = _) ∧ Below wr.heap.size wr _).2.2.2
                  have HbW := Lib.hid hbW
                  clear ho5 ho6 hb2 m1 m2 m3 hbW
                  go_wp2
                  go_roundw
                  case rel => exact ⟨k + 1, _, _, zs, ls, by go_num, by omega, HR.out.ol.below HbW.out (Nat.le_refl _), HR.out.qc.below HbW.out, HR.out.o1.below HbW.out (Nat.le_refl _), HR.out.n1, HR.out.o2.below HbW.out (Nat.le_refl _), HR.out.inv, by omega, HR.out.bel.trans (HbW.out.mono hsz)⟩
                  case measure => simp [intOf]; omega
            · have hlm := lim_none hr0
              by_cases hxl : x < lim rs
              · have hx1 : x < 65536 := by omega
                have HxL := Lib.hid hxl
                clear hlm hxl
                have hi := isI_iff.2 ⟨hx0, HxL.out⟩
                have he0 : pushE rs zs x = 0 := by
                  by_cases hc : x ∈ zs
                  · exact pushE_in HQ0.out hi hc
                  · exact pushE_ok HQ0.out hi hc (by omega)
                have He := Lib.hid he0
                have Hpr := Lib.hid (pushR_ok he0)
                obtain ⟨zs2, hzs2⟩ : ∃ zs2, pushZ rs zs x = zs2 := ⟨_, rfl⟩
                have Hpz := Lib.hid hzs2
                clear hi he0 hzs2
                go_wp2
                have hS0 : wr.drew.cell? ⟨w1.heap.size, 0, none⟩ = some (.slice a3 rs.length k3) ∧ wr.drew.cell? ⟨w1.heap.size, 1, none⟩ = some (.slice a4 zs.length k4) ∧ wr.drew.cell? ⟨bo, oo + k, none⟩ = some (.int .i64 x) ∧ Below wr.heap.size wr wr.drew := ⟨q0, q1, ck, Drawn.below ⟨1, rfl⟩ _⟩
                have HA := Lib.hid (fun o => keepRA hS0 hBs hbr o : ∀ o, (wr.alloc o).drew.cell? ⟨w1.heap.size, 0, none⟩ = some (.slice a3 rs.length k3) ∧ (wr.alloc o).drew.cell? ⟨w1.heap.size, 1, none⟩ = some (.slice a4 zs.length k4) ∧ (wr.alloc o).drew.cell? ⟨bo, oo + k, none⟩ = some (.int .i64 x) ∧ Below wr.heap.size wr (wr.alloc o).drew)
                go_region_held3 (fun w' => w'.cell? ⟨w1.heap.size, 0, none⟩ = some (.slice a3 rs.length k3) ∧ w'.cell? ⟨w1.heap.size, 1, none⟩ = some (.slice a4 zs.length k4) ∧ w'.cell? ⟨bo, oo + k, none⟩ = some (.int .i64 x) ∧ Below wr.heap.size wr w')
                  (first
                    | (with_reducible exact hS0)
                    | exact HA.out _
                    | (with_reducible exact keepR (by assumption) hBs hbr hb2)
                    | (with_reducible exact keepRA (by assumption) hBs hbr _)
                    | (with_reducible exact keepRA (keepR hS0 hBs hbr hb2) hBs hbr _)
                    | (with_reducible exact keepRC (keepRC (by assumption) hBs hbr (Nat.le_refl _)) hBs hbr (Nat.le_refl _))
                    | fail)
                  (first
                    | (go_at_call 11; (with_reducible refine Calls.mono (push_at a3 _ k3 rs rfl a4 _ k4 zs rfl x _ (by unfold maxLen; omega) (by unfold maxLen; omega) (HR.out.o1.ints.below (by exact (by assumption : _ ∧ _ ∧ _ ∧ _).2.2.2) (Nat.le_refl _)) (HR.out.o2.ints.below (by exact (by assumption : _ ∧ _ ∧ _ ∧ _).2.2.2) (Nat.le_refl _)) HR.out.o1.nilcap HR.out.o2.nilcap) ?_); rintro e w2 ⟨v5, v6, rfl, ho5, ho6, hb2⟩; rw [He.out]; rw [Hpr.out] at ho5; rw [Hpz.out] at ho6
                       obtain ⟨a5, k5, rfl, -, -⟩ := ho5.shape2; obtain ⟨a6, k6, rfl, -, -⟩ := ho6.shape2
                       obtain ⟨m1, m2⟩ := bcell hb2; have m3 := hb2.size; (try simp at m3); (try rw [Nat.add_one_le_iff] at m3))
                    | fail)
                · obtain ⟨W2, hW2⟩ : ∃ W2, W2 = w2.alloc (.cells #[.slice a5 rs.length k5, .slice a6 zs2.length k6] 24) := ⟨_, rfl⟩
                  have HbW := Lib.hid (show Below wr.heap.size wr W2 by rw [hW2]; exact ((Drawn.below ⟨1, rfl⟩ _).trans hb2).alloc hb2.size _)
                  have hqp : QC W2 w2.heap.size (.slice a5 rs.length k5) (.slice a6 zs2.length k6) := by rw [hW2]; exact QC.new _ _ _ _
                  have Ho5 := Lib.hid (show Own W2 wr.heap.size (.slice a5 rs.length k5) rs by rw [hW2]; exact ho5.alloc _)
                  have Ho6 := Lib.hid (show Own W2 wr.heap.size (.slice a6 zs2.length k6) zs2 by rw [hW2]; exact ho6.alloc _)
                  rw [← hW2]
                  have hBp : wr.heap.size ≤ w2.heap.size := hb2.size
                  clear hW2 ho5 ho6 hb2 m1 m2 m3
                  generalize w2.heap.size = Bp at *
                  have Hqp := Lib.hid hqp
                  have p0 := hqp.c0
                  have p1 := hqp.c1
                  have Hqb := Lib.hid (HR.out.qc.below HbW.out)
                  have Hol := Lib.hid (HR.out.ol.below HbW.out (Nat.le_refl _))
                  have Hap5 := Lib.hid (apart2 HR.out.ol Ho5.out (Nat.le_refl _))
                  have Hap6 := Lib.hid (apart2 HR.out.ol Ho6.out (Nat.le_refl _))
                  have hneL : some (Bp) ≠ (Value.slice a2 ls.length k2).ownBlock := fun e => by have := (World.ownsRow.lt HR.out.ol (Bp) e.symm).2; omega
                  have HneL := Lib.hid hneL
                  have hneB : some w1.heap.size ≠ (Value.slice a2 ls.length k2).ownBlock := fun e => HR.out.ol.ne_of_ge (by omega) e.symm
                  have HneB := Lib.hid hneB
                  have HB2 := Lib.hid (HR.out.bel.trans (HbW.out.mono hsz))
                  have hsW := HbW.out.size
                  have ck2 := (HbW.out.cell (p := ⟨bo, oo + k, none⟩) hbr).trans ck
                  have HPp := Lib.hid (HR.out.inv.push He.out)
                  rw [Hpz.out] at HPp
                  clear hqp hneL hneB q0 q1 q2 q3 hS0 HA
                  by_cases hin : x ∈ ls
                  · have hwl := wo_len_in hin
                    have hbt : (((wo ls x).length : Int) == (ls.length : Int)) = false := by rw [beq_eq_false_iff_ne]; omega
                    rw [if_pos hin] at HPp
                    clear hin
                    go_wp2_with fail
                    refine (without_at a2 _ k2 ls rfl x W2 (by omega) Hol.out.ints).mono ?_
                    rintro e w3 ⟨v7, rfl, ho7, hb7⟩
                    obtain ⟨a7, k7, rfl, -, -⟩ := ho7.shape2
                    have hq3 := Hqp.out.below hb7
                    have hqb3 := Hqb.out.below hb7
                    have s0 := hq3.c0
                    have s1 := hq3.c1
                    have r0 := hqb3.c0
                    have r1 := hqb3.c1
                    have r2 := hqb3.f0
                    have r3 := hqb3.f1
                    have Hqb3 := Lib.hid hqb3
                    have Hb7 := Lib.hid hb7
                    clear ho7 hb7 hq3 hqb3 p0 p1 ck2
                    go_wp2
                    go_roundw
                    case rel => exact ⟨k + 1, _, _, _, _, by go_num, by omega, own_q (Hol.out.below Hb7.out (Nat.le_refl _)) (by omega), Hqb3.out.set _ _, Own.mono (own_q ((Ho5.out.below Hb7.out (Nat.le_refl _)).mono (b := w1.heap.size + 1) (by omega)) (by omega)) (by omega), Ho5.out.ne_of_ge (by omega),
                      own_q ((Ho6.out.below Hb7.out (Nat.le_refl _)).mono (b := w1.heap.size + 1) (by omega)) (by omega), HPp.out, by omega, ((HB2.out.trans (Hb7.out.mono (by omega))).setCell (by simp; omega) _).setCell (by simp; omega) _⟩
                    case measure => simp [intOf]; omega
                  · have hwl := wo_len_out hin
                    have hbt : (((wo ls x).length : Int) == (ls.length : Int)) = true := by rw [beq_iff_eq]; omega
                    rw [if_neg hin] at HPp
                    clear hin hwl
                    go_wp2_with fail
                    refine (without_at a2 _ k2 ls rfl x W2 (by omega) Hol.out.ints).mono ?_
                    rintro e w3 ⟨v7, rfl, ho7, hb7⟩
                    obtain ⟨a7, k7, rfl, -, -⟩ := ho7.shape2
                    have Hb7 := Lib.hid hb7
                    have hs3 := hb7.size
                    have ck3 := (hb7.cell (p := ⟨bo, oo + k, none⟩) (by show bo < _; omega)).trans ck2
                    have Hol3 := Lib.hid (Hol.out.below hb7 (Nat.le_refl _))
                    clear ho7 hb7 ck2 p0 p1
                    go_wp2_with (at_builtin; refine wpList_append_int rfl _ _ rfl (w1.heap.size + 1) _ ls rfl (Hol3.out.alloc _) _ x rfl (by simp) (by omega) (by simp; omega) ?_)
                    intro v8 w4 h8 hg8
                    have Ho8 := Lib.hid h8
                    have Hg8 := Lib.hid hg8
                    have hq4 := ((Hqp.out.below Hb7.out).alloc (.cells #[.int .i64 x] 3)).kept hg8 HneL.out
                    have hqb4 := ((Hqb.out.below Hb7.out).alloc (.cells #[.int .i64 x] 3)).kept hg8 HneB.out
                    have s0 := hq4.c0
                    have s1 := hq4.c1
                    have r0 := hqb4.c0
                    have r1 := hqb4.c1
                    have r2 := hqb4.f0
                    have r3 := hqb4.f1
                    have Hqb4 := Lib.hid hqb4
                    have q5 := Lib.hid (show Own w4 wr.heap.size (.slice a5 rs.length k5) rs from World.ownsRow.kept ((Ho5.out.below Hb7.out (Nat.le_refl _)).alloc (.cells #[.int .i64 x] 3)) hg8 Hap5.out)
                    have q6 := Lib.hid (show Own w4 wr.heap.size (.slice a6 zs2.length k6) zs2 from World.ownsRow.kept ((Ho6.out.below Hb7.out (Nat.le_refl _)).alloc (.cells #[.int .i64 x] 3)) hg8 Hap6.out)
                    have Hb4 := Lib.hid ((Hol3.out.mono (b := w.heap.size) (by omega)).grown hg8 (HB2.out.trans (Hb7.out.mono (by omega))) (by omega))
                    clear h8 hg8 hq4 hqb4
                    obtain ⟨a8, k8, rfl, -, -⟩ := Ho8.out.shape2
                    go_wp2
                    go_roundw
                    case rel => exact ⟨k + 1, _, _, _, _, by go_num, by omega, own_q Ho8.out (by omega), Hqb4.out.set _ _, Own.mono (own_q (q5.out.mono (b := w1.heap.size + 1) (by omega)) (by omega)) (by omega), q5.out.ne_of_ge (by omega),
                      own_q (q6.out.mono (b := w1.heap.size + 1) (by omega)) (by omega), HPp.out, by rw [List.length_append]; simp; omega, (Hb4.out.setCell (by simp; omega) _).setCell (by simp; omega) _⟩
                    case measure => simp [intOf]; omega
                · have hq9 := ((QC.new wr (.slice none 0 0) (.slice none 0 0) 24).below (Drawn.below ⟨1, rfl⟩ _)).below hb2
                  obtain ⟨W2, hW2⟩ : ∃ W2, W2 = ((w2.setCell ⟨wr.heap.size, 0, none⟩ (.slice a5 rs.length k5)).setCell ⟨wr.heap.size, 1, none⟩ (.slice a6 zs2.length k6)) := ⟨_, rfl⟩
                  have HbW := Lib.hid (show Below wr.heap.size wr W2 by rw [hW2]; exact (((((Below.refl _ wr).alloc (Nat.le_refl _) _).trans (Drawn.below ⟨1, rfl⟩ _)).trans (hb2.mono (by show wr.heap.size ≤ (wr.alloc _).heap.size; simp))).setCell (Nat.le_refl _) _).setCell (Nat.le_refl _) _)
                  have hqp : QC W2 wr.heap.size (.slice a5 rs.length k5) (.slice a6 zs2.length k6) := by rw [hW2]; exact hq9.set _ _
                  have Ho5 := Lib.hid (show Own W2 wr.heap.size (.slice a5 rs.length k5) rs by rw [hW2]; exact Own.mono (own_q (ho5.mono (b := wr.heap.size + 1) (by show wr.heap.size + 1 ≤ (wr.alloc _).heap.size; simp)) (by omega)) (by omega))
                  have Ho6 := Lib.hid (show Own W2 wr.heap.size (.slice a6 zs2.length k6) zs2 by rw [hW2]; exact Own.mono (own_q (ho6.mono (b := wr.heap.size + 1) (by show wr.heap.size + 1 ≤ (wr.alloc _).heap.size; simp)) (by omega)) (by omega))
                  rw [← hW2]
                  have hBp : wr.heap.size ≤ wr.heap.size := Nat.le_refl _
                  clear hW2 hq9 ho5 ho6 hb2 m1 m2 m3
                  have Hqp := Lib.hid hqp
                  have p0 := hqp.c0
                  have p1 := hqp.c1
                  have Hqb := Lib.hid (HR.out.qc.below HbW.out)
                  have Hol := Lib.hid (HR.out.ol.below HbW.out (Nat.le_refl _))
                  have Hap5 := Lib.hid (apart2 HR.out.ol Ho5.out (Nat.le_refl _))
                  have Hap6 := Lib.hid (apart2 HR.out.ol Ho6.out (Nat.le_refl _))
                  have hneL : some (wr.heap.size) ≠ (Value.slice a2 ls.length k2).ownBlock := fun e => by have := (World.ownsRow.lt HR.out.ol (wr.heap.size) e.symm).2; omega
                  have HneL := Lib.hid hneL
                  have hneB : some w1.heap.size ≠ (Value.slice a2 ls.length k2).ownBlock := fun e => HR.out.ol.ne_of_ge (by omega) e.symm
                  have HneB := Lib.hid hneB
                  have HB2 := Lib.hid (HR.out.bel.trans (HbW.out.mono hsz))
                  have hsW := HbW.out.size
                  have ck2 := (HbW.out.cell (p := ⟨bo, oo + k, none⟩) hbr).trans ck
                  have HPp := Lib.hid (HR.out.inv.push He.out)
                  rw [Hpz.out] at HPp
                  clear hqp hneL hneB q0 q1 q2 q3 hS0 HA
                  by_cases hin : x ∈ ls
                  · have hwl := wo_len_in hin
                    have hbt : (((wo ls x).length : Int) == (ls.length : Int)) = false := by rw [beq_eq_false_iff_ne]; omega
                    rw [if_pos hin] at HPp
                    clear hin
                    go_wp2_with fail
                    refine (without_at a2 _ k2 ls rfl x W2 (by omega) Hol.out.ints).mono ?_
                    rintro e w3 ⟨v7, rfl, ho7, hb7⟩
                    obtain ⟨a7, k7, rfl, -, -⟩ := ho7.shape2
                    have hq3 := Hqp.out.below hb7
                    have hqb3 := Hqb.out.below hb7
                    have s0 := hq3.c0
                    have s1 := hq3.c1
                    have r0 := hqb3.c0
                    have r1 := hqb3.c1
                    have r2 := hqb3.f0
                    have r3 := hqb3.f1
                    have Hqb3 := Lib.hid hqb3
                    have Hb7 := Lib.hid hb7
                    clear ho7 hb7 hq3 hqb3 p0 p1 ck2
                    go_wp2
                    go_roundw
                    case rel => exact ⟨k + 1, _, _, _, _, by go_num, by omega, own_q (Hol.out.below Hb7.out (Nat.le_refl _)) (by omega), Hqb3.out.set _ _, Own.mono (own_q ((Ho5.out.below Hb7.out (Nat.le_refl _)).mono (b := w1.heap.size + 1) (by omega)) (by omega)) (by omega), Ho5.out.ne_of_ge (by omega),
                      own_q ((Ho6.out.below Hb7.out (Nat.le_refl _)).mono (b := w1.heap.size + 1) (by omega)) (by omega), HPp.out, by omega, ((HB2.out.trans (Hb7.out.mono (by omega))).setCell (by simp; omega) _).setCell (by simp; omega) _⟩
                    case measure => simp [intOf]; omega
                  · have hwl := wo_len_out hin
                    have hbt : (((wo ls x).length : Int) == (ls.length : Int)) = true := by rw [beq_iff_eq]; omega
                    rw [if_neg hin] at HPp
                    clear hin hwl
                    go_wp2_with fail
                    refine (without_at a2 _ k2 ls rfl x W2 (by omega) Hol.out.ints).mono ?_
                    rintro e w3 ⟨v7, rfl, ho7, hb7⟩
                    obtain ⟨a7, k7, rfl, -, -⟩ := ho7.shape2
                    have Hb7 := Lib.hid hb7
                    have hs3 := hb7.size
                    have ck3 := (hb7.cell (p := ⟨bo, oo + k, none⟩) (by show bo < _; omega)).trans ck2
                    have Hol3 := Lib.hid (Hol.out.below hb7 (Nat.le_refl _))
                    clear ho7 hb7 ck2 p0 p1
                    go_wp2_with (at_builtin; refine wpList_append_int rfl _ _ rfl (w1.heap.size + 1) _ ls rfl (Hol3.out.alloc _) _ x rfl (by simp) (by omega) (by simp; omega) ?_)
                    intro v8 w4 h8 hg8
                    have Ho8 := Lib.hid h8
                    have Hg8 := Lib.hid hg8
                    have hq4 := ((Hqp.out.below Hb7.out).alloc (.cells #[.int .i64 x] 3)).kept hg8 HneL.out
                    have hqb4 := ((Hqb.out.below Hb7.out).alloc (.cells #[.int .i64 x] 3)).kept hg8 HneB.out
                    have s0 := hq4.c0
                    have s1 := hq4.c1
                    have r0 := hqb4.c0
                    have r1 := hqb4.c1
                    have r2 := hqb4.f0
                    have r3 := hqb4.f1
                    have Hqb4 := Lib.hid hqb4
                    have q5 := Lib.hid (show Own w4 wr.heap.size (.slice a5 rs.length k5) rs from World.ownsRow.kept ((Ho5.out.below Hb7.out (Nat.le_refl _)).alloc (.cells #[.int .i64 x] 3)) hg8 Hap5.out)
                    have q6 := Lib.hid (show Own w4 wr.heap.size (.slice a6 zs2.length k6) zs2 from World.ownsRow.kept ((Ho6.out.below Hb7.out (Nat.le_refl _)).alloc (.cells #[.int .i64 x] 3)) hg8 Hap6.out)
                    have Hb4 := Lib.hid ((Hol3.out.mono (b := w.heap.size) (by omega)).grown hg8 (HB2.out.trans (Hb7.out.mono (by omega))) (by omega))
                    clear h8 hg8 hq4 hqb4
                    obtain ⟨a8, k8, rfl, -, -⟩ := Ho8.out.shape2
                    go_wp2
                    go_roundw
                    case rel => exact ⟨k + 1, _, _, _, _, by go_num, by omega, own_q Ho8.out (by omega), Hqb4.out.set _ _, Own.mono (own_q (q5.out.mono (b := w1.heap.size + 1) (by omega)) (by omega)) (by omega), q5.out.ne_of_ge (by omega),
                      own_q (q6.out.mono (b := w1.heap.size + 1) (by omega)) (by omega), HPp.out, by rw [List.length_append]; simp; omega, (Hb4.out.setCell (by simp; omega) _).setCell (by simp; omega) _⟩
                    case measure => simp [intOf]; omega
              · have hx1 : 65536 ≤ x := by omega
                have HxL := Lib.hid hxl
                clear hlm hxl
                have He := Lib.hid (pushE_rng HQ0.out (show isI rs x = false from isI_not.2 (.inr (by have := HxL.out; omega))))
                have Hpr := Lib.hid (pushR_no (rs := rs) (zs := zs) (x := x) (by rw [He.out]; omega))
                have Hpz := Lib.hid (pushZ_no (rs := rs) (zs := zs) (x := x) (by rw [He.out]; omega))
                go_wp2
                have hS0 : wr.drew.cell? ⟨w1.heap.size, 0, none⟩ = some (.slice a3 rs.length k3) ∧ wr.drew.cell? ⟨w1.heap.size, 1, none⟩ = some (.slice a4 zs.length k4) ∧ wr.drew.cell? ⟨bo, oo + k, none⟩ = some (.int .i64 x) ∧ Below wr.heap.size wr wr.drew := ⟨q0, q1, ck, Drawn.below ⟨1, rfl⟩ _⟩
                have HA := Lib.hid (fun o => keepRA hS0 hBs hbr o : ∀ o, (wr.alloc o).drew.cell? ⟨w1.heap.size, 0, none⟩ = some (.slice a3 rs.length k3) ∧ (wr.alloc o).drew.cell? ⟨w1.heap.size, 1, none⟩ = some (.slice a4 zs.length k4) ∧ (wr.alloc o).drew.cell? ⟨bo, oo + k, none⟩ = some (.int .i64 x) ∧ Below wr.heap.size wr (wr.alloc o).drew)
                go_region_held3 (fun w' => w'.cell? ⟨w1.heap.size, 0, none⟩ = some (.slice a3 rs.length k3) ∧ w'.cell? ⟨w1.heap.size, 1, none⟩ = some (.slice a4 zs.length k4) ∧ w'.cell? ⟨bo, oo + k, none⟩ = some (.int .i64 x) ∧ Below wr.heap.size wr w')
                  (first
                    | (with_reducible exact hS0)
                    | exact HA.out _
                    | (with_reducible exact keepR (by assumption) hBs hbr hb2)
                    | (with_reducible exact keepRA (by assumption) hBs hbr _)
                    | (with_reducible exact keepRA (keepR hS0 hBs hbr hb2) hBs hbr _)
                    | (with_reducible exact keepRC (keepRC (by assumption) hBs hbr (Nat.le_refl _)) hBs hbr (Nat.le_refl _))
                    | fail)
                  (first
                    | (go_at_call 11; (with_reducible refine Calls.mono (push_at a3 _ k3 rs rfl a4 _ k4 zs rfl x _ (by unfold maxLen; omega) (by unfold maxLen; omega) (HR.out.o1.ints.below (by exact (by assumption : _ ∧ _ ∧ _ ∧ _).2.2.2) (Nat.le_refl _)) (HR.out.o2.ints.below (by exact (by assumption : _ ∧ _ ∧ _ ∧ _).2.2.2) (Nat.le_refl _)) HR.out.o1.nilcap HR.out.o2.nilcap) ?_); rintro e w2 ⟨v5, v6, rfl, ho5, ho6, hb2⟩; rw [He.out]; rw [Hpr.out] at ho5; rw [Hpz.out] at ho6
                       obtain ⟨a5, k5, rfl, -, -⟩ := ho5.shape2; obtain ⟨a6, k6, rfl, -, -⟩ := ho6.shape2
                       obtain ⟨m1, m2⟩ := bcell hb2; have m3 := hb2.size; (try simp at m3); (try rw [Nat.add_one_le_iff] at m3))
                    | fail)
                all_goals
                  have hbW := (by assumption : (World.cell? _ _ = _) ∧ (World.cell? _ _ = _) ∧ (World.cell? _ _ = _) ∧ Below wr.heap.size wr _).2.2.2
                  have HbW := Lib.hid hbW
                  clear ho5 ho6 hb2 m1 m2 m3 hbW
                  go_wp2
                  go_roundw
                  case rel => exact ⟨k + 1, _, _, zs, ls, by go_num, by omega, HR.out.ol.below HbW.out (Nat.le_refl _), HR.out.qc.below HbW.out, HR.out.o1.below HbW.out (Nat.le_refl _), HR.out.n1, HR.out.o2.below HbW.out (Nat.le_refl _), HR.out.inv, by omega, HR.out.bel.trans (HbW.out.mono hsz)⟩
                  case measure => simp [intOf]; omega
        · have Hdz := Lib.hid (show drainZ rs zs = zs by unfold drainZ; rw [if_pos ((qchk_iff _ _).2 HR.out.inv.qv)])
          have Hlz := Lib.hid (show lenZ rs zs = zs.length by unfold lenZ; rw [if_pos ((qchk_iff _ _).2 HR.out.inv.qv)])
          have HQ0 := Lib.hid ((qchk_iff _ _).2 HR.out.inv.qv)
          have hbt : ((zs.length : Int) == (ls.length : Int)) = true := by rw [Heq.out]; simp
          go_wp2_with fail
          refine (len_at a3 _ k3 rs rfl a4 _ k4 zs rfl _ Hlz.out wr (by unfold maxLen; omega) (by unfold maxLen; omega) HR.out.o1.ints HR.out.o2.ints).mono ?_
          rintro e w2 ⟨rfl, hb2⟩
          have hq2 := HR.out.qc.below hb2
          have H1 := Lib.hid (HR.out.o1.below hb2 (Nat.le_refl _))
          have H2 := Lib.hid (HR.out.o2.below hb2 (Nat.le_refl _))
          have HB2 := Lib.hid (HR.out.bel.trans (hb2.mono hsz))
          have hs2 := HB2.out.size
          have Hq2 := Lib.hid hq2
          clear q0 q1 q2 q3 hb2
          have p0 := hq2.c0
          have p1 := hq2.c1
          clear hq2
          go_wp2_with fail
          refine (drain_at a3 _ k3 rs rfl a4 _ k4 zs rfl w2 (by unfold maxLen; omega) (by unfold maxLen; omega) H1.out.ints H2.out.ints H2.out.nilcap).mono ?_
          rintro e w3 ⟨v7, rfl, ho7, hb7⟩
          rw [Hdz.out] at ho7
          obtain ⟨a7, k7, rfl, -, -⟩ := ho7.shape2
          have hq3 := Hq2.out.below hb7
          have H13 := Lib.hid (H1.out.below hb7 (Nat.le_refl _))
          have H23 := Lib.hid (H2.out.below hb7 (Nat.le_refl _))
          have HB3 := Lib.hid (HB2.out.trans (hb7.mono hs2))
          have hs3 := HB3.out.size
          clear p0 p1 hb7 ho7
          have p0 := hq3.c0
          have p1 := hq3.c1
          clear hq3
          go_wp2_with fail
          refine (check_at a3 k3 rs a4 k4 zs 0 HQ0.out w3 (by unfold maxLen; omega) (by unfold maxLen; omega) H13.out.ints H23.out.ints).mono ?_
          rintro e w4 ⟨rfl, hb4⟩
          have HB4 := Lib.hid (HB3.out.trans (hb4.mono hs3))
          have hs4 := HB4.out.size
          clear p0 p1 hb4
          go_wp2_with fail
          refine (awake_any _).mono ?_
          rintro e w5 ⟨rfl, hb5⟩
          go_wp2
          go_ret
          exact ⟨rfl, HB4.out.trans (hb5.mono hs4)⟩
    · have hs1 := hb1.size
      have Hb1 := Lib.hid hb1
      clear hb1
      go_wp2_with fail
      refine (awake_any _).mono ?_
      rintro e w5 ⟨rfl, hb5⟩
      go_wp2
      go_ret
      exact ⟨rfl, (Hb1.out.alloc hs1 _).trans (hb5.mono (by simp; omega))⟩
theorem runs_row (a : Option Addr) (c : Nat) (rs : List Int) (b : Option Addr) (d : Nat) (ops : List Int) (w : World) (hn : rs.length ≤ maxLen) (hz : Ints w a rs) (hnil : a = none → c = 0) (hm : ops.length ≤ maxLen) (ho : Ints w b ops) (hnil2 : b = none → d = 0) :
    Calls Try.prog 4 #[.slice a rs.length c, .slice b ops.length d] w fun e w' => e = .returned (.bool true) ∧ Below w.heap.size w w' :=
  runs_any a c rs b d ops w hn hz hnil hm ho hnil2
end Go.Proofs.Ytpegkmancaoeiaa
