/-
  The definition's Least: the item that is due.
-/
import Derived.Test.YtpegkmancaoeiaaWArr
namespace Go.Proofs.Ytpegkmancaoeiaa
open Go.RowKit Go.WideShapes
set_option linter.unusedVariables false

def lstep (rs : List Int) (m y : Int) : Int := if 0 < rs.length ∧ prec rs y m = true then y else m
def leastL (rs l : List Int) : Int := l.foldl (lstep rs) (l.getD 0 0)
theorem least_snoc {rs l : List Int} {k : Nat} (h : k < l.length) (d : Int) : (l.take (k + 1)).foldl (lstep rs) d = lstep rs ((l.take k).foldl (lstep rs) d) (l.getD k 0) := by
  rw [take_add_one_eq h, List.foldl_append]; rfl
theorem lstep_self (rs : List Int) (m : Int) : lstep rs m m = m := by unfold lstep; split <;> rfl
theorem least_one {rs l : List Int} (h : 0 < l.length) : (l.take 1).foldl (lstep rs) (l.getD 0 0) = l.getD 0 0 := by
  rw [least_snoc h]; simp [lstep_self]
theorem fold_mem (rs : List Int) : ∀ (l : List Int) (d : Int), l.foldl (lstep rs) d = d ∨ l.foldl (lstep rs) d ∈ l
  | [], d => .inl rfl
  | y :: l, d => by
    rw [List.foldl_cons]
    rcases fold_mem rs l (lstep rs d y) with h | h
    · rw [h]
      unfold lstep
      split
      · exact .inr (by simp)
      · exact .inl rfl
    · exact .inr (by simp [h])
theorem fold_le (rs : List Int) (hr : 0 < rs.length) : ∀ (l : List Int) (d : Int), prec rs d (l.foldl (lstep rs) d) = false ∧ ∀ y ∈ l, prec rs y (l.foldl (lstep rs) d) = false
  | [], d => ⟨prec_irrefl rs d, by simp⟩
  | y :: l, d => by
    rw [List.foldl_cons]
    obtain ⟨h1, h2⟩ := fold_le rs hr l (lstep rs d y)
    have key : ∀ u m : Int, prec rs (lstep rs d y) m = false → (u = d ∨ u = y) → prec rs u m = false := by
      intro u m hm hu
      unfold lstep at hm
      by_cases c : prec rs y d = true
      · rw [if_pos ⟨hr, c⟩] at hm
        rcases hu with rfl | rfl
        · cases e : prec rs u m with
          | false => rfl
          | true => rw [prec_trans c e] at hm; cases hm
        · exact hm
      · rw [if_neg (fun h => c h.2)] at hm
        rcases hu with rfl | rfl
        · exact hm
        · have c' : prec rs u d = false := by simpa using c
          cases e : prec rs u m with
          | false => rfl
          | true =>
            rw [prec_not] at c' hm
            rw [prec_iff] at e
            omega
    refine ⟨key d _ h1 (.inl rfl), fun u hu => ?_⟩
    rcases List.mem_cons.1 hu with rfl | hu
    · exact key _ _ h1 (.inr rfl)
    · exact h2 u hu
theorem leastL_none {rs l : List Int} (hr : ¬ 0 < rs.length) : leastL rs l = l.getD 0 0 := by
  unfold leastL
  generalize l.getD 0 0 = d
  induction l generalizing d with
  | nil => rfl
  | cons y l ih => rw [List.foldl_cons, ih]; unfold lstep; rw [if_neg (fun h => hr h.1)]
theorem leastL_head {rs l ts : List Int} {z : Int} (hv : QV rs (z :: ts)) (hm : ∀ y, y ∈ l ↔ y ∈ z :: ts) (hr : 0 < rs.length) : leastL rs l = z := by
  have hz : z ∈ l := (hm z).2 (by simp)
  have hl : 0 < l.length := List.length_pos_of_mem hz
  have h1 := (fold_le rs hr l (l.getD 0 0)).2 z hz
  have h2 : leastL rs l ∈ l := by
    rcases fold_mem rs l (l.getD 0 0) with h | h
    · unfold leastL; rw [h]; exact mem_of_getD hl
    · exact h
  have h3 := (hm _).1 h2
  rcases List.mem_cons.1 h3 with h3 | h3
  · exact h3
  · have := (List.pairwise_cons.1 (hv.ord hr)).1 _ h3
    unfold leastL at this h1
    rw [this] at h1; cases h1

/-- What was pushed and not popped, and the items. -/
structure RunInv (rs zs ls : List Int) : Prop where
  qv : QV rs zs
  nd : ls.Nodup
  mem : ∀ y, y ∈ ls ↔ y ∈ zs
  fifo : ¬ 0 < rs.length → ls = zs
theorem RunInv.len {rs zs ls : List Int} (h : RunInv rs zs ls) : ls.length = zs.length :=
  ((List.perm_ext_iff_of_nodup h.nd h.qv.nd).2 h.mem).length_eq
theorem RunInv.least {rs ls ts : List Int} {z : Int} (h : RunInv rs (z :: ts) ls) : leastL rs ls = z := by
  by_cases hr : 0 < rs.length
  · exact leastL_head h.qv h.mem hr
  · rw [leastL_none hr, h.fifo hr]; rfl
theorem mem_wo {ls : List Int} {x y : Int} : y ∈ wo ls x ↔ y ∈ ls ∧ y ≠ x := by simp [wo]
theorem RunInv.pop {rs ls ts : List Int} {z : Int} (h : RunInv rs (z :: ts) ls) : RunInv rs ts (wo ls z) := by
  have hz := (List.nodup_cons.1 h.qv.nd).1
  refine ⟨h.qv.tail, h.nd.filter _, fun y => ?_, fun hr => ?_⟩
  · rw [mem_wo, h.mem, List.mem_cons]
    constructor
    · rintro ⟨rfl | h1, h2⟩
      · exact absurd rfl h2
      · exact h1
    · exact fun h1 => ⟨.inr h1, fun e => hz (e ▸ h1)⟩
  · rw [h.fifo hr]
    unfold wo
    rw [List.filter_cons, if_neg (by simp), List.filter_eq_self.2]
    intro y hy
    simp
    rintro rfl
    exact hz hy
theorem RunInv.push {rs zs ls : List Int} {x : Int} (h : RunInv rs zs ls) (he : pushE rs zs x = 0) : RunInv rs (pushZ rs zs x) (if x ∈ ls then ls else ls ++ [x]) := by
  refine ⟨push_valid he, ?_, fun y => ?_, fun hr => ?_⟩
  · split
    · exact h.nd
    · rename_i hx
      rw [List.nodup_append]
      exact ⟨h.nd, by simp, fun a ha b hb => by simp at hb; subst hb; rintro rfl; exact hx ha⟩
  · rw [mem_pushZ he, ← h.mem]
    split
    · rename_i hx
      exact ⟨.inr, fun h1 => by rcases h1 with rfl | h1 <;> assumption⟩
    · rw [List.mem_append, List.mem_singleton]; exact ⟨fun h1 => h1.symm, fun h1 => h1.symm⟩
  · have e := h.fifo hr
    subst e
    by_cases hx : x ∈ ls
    · rw [if_pos hx, pushZ_in he hx]
    · rw [if_neg hx, pushZ_ins he hx]
      have : pl rs ls x = ls.length := by unfold pl; rw [if_neg hr]
      unfold ins
      rw [this]; simp

set_option maxHeartbeats 1000000 in
theorem least_any (ra : Option Addr) (rc : Nat) (rs : List Int) (la : Option Addr) (lc : Nat) (ls : List Int) (w : World) (hn : rs.length ≤ 8192) (hm : ls.length ≤ 8192) (h0 : 0 < ls.length) (hrng : 0 < rs.length → ∀ y ∈ ls, 0 ≤ y ∧ y < rs.length) (hr : Ints w ra rs) (hl : Ints w la ls) :
    Calls Try.prog 22 #[.slice ra rs.length rc, .slice la ls.length lc] w fun e w' => e = .returned (.int .i64 (leastL rs ls)) ∧ Below w.heap.size w w' := by
  obtain ⟨bl, ol, rfl, hcl⟩ := hl h0
  have c0 := hcl 0 h0
  have hone := least_one (rs := rs) h0
  rw [Nat.add_zero] at c0
  obtain ⟨d, hd⟩ : ∃ d, ls.getD 0 0 = d := ⟨_, rfl⟩
  rw [hd] at c0 hone
  have hp0 : (0 : Int) < (ls.length : Int) := by omega
  have Hone := Lib.hid hone
  have Hfin := Lib.hid (show leastL rs ls = ls.foldl (lstep rs) d by unfold leastL; rw [hd])
  have Hr := Lib.hid hr
  have Hcl := Lib.hid hcl
  have Hrng := Lib.hid hrng
  have Hd := Lib.hid hd
  clear hr hl hcl hone hd hrng
  go_enter Try.func22, Try.ntmps22
  go_wp2
  go_loopw [5, 6] (fun m i wr => ∃ k : Nat, 1 ≤ k ∧ k ≤ ls.length ∧ i = .int .i64 k ∧ m = .int .i64 ((ls.take k).foldl (lstep rs) d) ∧ Below w.heap.size w wr) (fun _ i _ => ls.length - (intOf i).toNat)
  case atStart => exact ⟨1, Nat.le_refl _, h0, rfl, by rw [Hone.out], Below.refl _ _⟩
  case round =>
    obtain ⟨k, hk1, hk, rfl, rfl, hb⟩ := hrel
    have Hb := Lib.hid hb
    have hsz := hb.size
    have Hrr := Lib.hid (Hr.out.below hb (Nat.le_refl _))
    by_cases hlt : k < ls.length
    · have ckw := Hcl.out k hlt
      have hbw := World.block_lt_of_cell? _ _ ckw
      have ck := (hb.cell (p := ⟨bl, ol + k, none⟩) hbw).trans ckw
      have hsn := least_snoc (rs := rs) hlt d
      have hfm := fold_mem rs (ls.take k) d
      have hdm : d ∈ ls := by rw [← Hd.out]; exact mem_of_getD h0
      have hfm2 : (ls.take k).foldl (lstep rs) d ∈ ls := by
        rcases hfm with h | h
        · rw [h]; exact hdm
        · exact List.mem_of_mem_take h
      have hym := mem_of_getD hlt
      obtain ⟨m, hm0⟩ : ∃ m, (ls.take k).foldl (lstep rs) d = m := ⟨_, rfl⟩
      obtain ⟨y, hy0⟩ : ∃ y, ls.getD k 0 = y := ⟨_, rfl⟩
      rw [hm0] at hsn hfm2
      rw [hy0] at hsn hym ck
      have Hm0 := Lib.hid hm0
      rw [hm0]
      clear hb ckw hbw hfm hdm hm0 hy0
      by_cases hrk : 0 < rs.length
      · obtain ⟨m1, m2⟩ := Hrng.out hrk m hfm2
        obtain ⟨y1, y2⟩ := Hrng.out hrk y hym
        obtain ⟨m, rfl⟩ : ∃ n : Nat, m = n := ⟨m.toNat, by omega⟩
        obtain ⟨y, rfl⟩ : ∃ n : Nat, y = n := ⟨y.toNat, by omega⟩
        have hm9 : m < rs.length := by omega
        have hy9 : y < rs.length := by omega
        clear hfm2 hym m1 m2 y1 y2
        cases hpr : prec rs (y : Int) (m : Int) with
        | true =>
          have T := Lib.hid (show (ls.take (k + 1)).foldl (lstep rs) d = (y : Int) by rw [hsn]; unfold lstep; rw [if_pos ⟨hrk, hpr⟩])
          have Hpr := Lib.hid hpr
          clear hpr hsn
          go_wp2_with fail
          refine (rprec_at ra _ rs y m true Hpr.out _ (by omega) Hrr.out hy9 hm9).mono ?_
          rintro e w2 ⟨rfl, n2, rfl⟩
          go_wp2
          go_roundw
          case rel => exact ⟨k + 1, by omega, by omega, by go_num, by rw [T.out], Hb.out.trans (Drawn.below ⟨_, rfl⟩ _)⟩
          case measure => simp [intOf]; omega
        | false =>
          have T := Lib.hid (show (ls.take (k + 1)).foldl (lstep rs) d = (m : Int) by rw [hsn]; unfold lstep; rw [if_neg (fun h => by rw [hpr] at h; cases h.2)])
          have Hpr := Lib.hid hpr
          clear hpr hsn
          go_wp2_with fail
          refine (rprec_at ra _ rs y m false Hpr.out _ (by omega) Hrr.out hy9 hm9).mono ?_
          rintro e w2 ⟨rfl, n2, rfl⟩
          go_wp2
          go_roundw
          case rel => exact ⟨k + 1, by omega, by omega, by go_num, by rw [T.out], Hb.out.trans (Drawn.below ⟨_, rfl⟩ _)⟩
          case measure => simp [intOf]; omega
      · have T := Lib.hid (show (ls.take (k + 1)).foldl (lstep rs) d = m by rw [hsn]; unfold lstep; rw [if_neg (fun h => hrk h.1)])
        clear hsn hfm2 hym
        go_wp2
        go_roundw
        case rel => exact ⟨k + 1, by omega, by omega, by go_num, by rw [T.out], Hb.out⟩
        case measure => simp [intOf]; omega
    · have T := Lib.hid (show (ls.take k).foldl (lstep rs) d = leastL rs ls by rw [Hfin.out, List.take_of_length_le (by omega)])
      clear hb
      go_wp2
      go_ret
      exact ⟨ret_int T.out, Hb.out⟩
end Go.Proofs.Ytpegkmancaoeiaa
