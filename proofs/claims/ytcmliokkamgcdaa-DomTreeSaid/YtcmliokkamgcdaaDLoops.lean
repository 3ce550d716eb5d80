/-
  Loops: the natural loops of a valid graph.
-/
import Derived.Test.YtcmliokkamgcdaaDLps
import Derived.Test.YtcmliokkamgcdaaDTop
import Derived.Test.YtcmliokkamgcdaaDSemN
namespace Go.Proofs.Ytcmliokkamgcdaa
open Go.RowKit Go.Shelf
set_option linter.unusedVariables false

def startsTo (ps : List (Int × Int)) (pl z : List Int) (h k : Nat) : List Nat := ((suD (prev ps) h).take k).filter fun v => domB pl z h v
def startsL (ps : List (Int × Int)) (pl z : List Int) (h : Nat) : List Nat := (suD (prev ps) h).filter fun v => domB pl z h v
theorem startsTo_all {ps : List (Int × Int)} {pl z : List Int} {h k : Nat} (e : (suD (prev ps) h).length = k) : startsTo ps pl z h k = startsL ps pl z h := by
  unfold startsTo startsL; rw [List.take_of_length_le (by omega)]
theorem startsTo_succ {ps : List (Int × Int)} {pl z : List Int} {h k v : Nat} (hk : k < (suD (prev ps) h).length) (e : (suD (prev ps) h)[k] = v) : startsTo ps pl z h (k + 1) = startsTo ps pl z h k ++ (if domB pl z h v = true then [v] else []) := by
  unfold startsTo
  rw [List.take_add_one, List.getElem?_eq_getElem hk, e, List.filter_append]
  by_cases c : domB pl z h v = true <;> simp [c]
theorem startsTo_len {ps : List (Int × Int)} {pl z : List Int} {h k : Nat} : (startsTo ps pl z h k).length ≤ (suD (prev ps) h).length := by
  unfold startsTo
  exact Nat.le_trans (List.length_filter_le _ _) (by rw [List.length_take]; omega)
def loopsTo (N : Nat) (ps : List (Int × Int)) (pl z : List Int) : Nat → List (Nat × List Nat)
  | 0 => []
  | k + 1 => loopsTo N ps pl z k ++ (if startsL ps pl z k = [] then [] else [(k, (loopS N (suD (prev ps)) z k (startsL ps pl z k)).2)])
theorem loopsTo_len {N : Nat} {ps : List (Int × Int)} {pl z : List Int} : ∀ k, (loopsTo N ps pl z k).length ≤ k
  | 0 => Nat.le_refl _
  | k + 1 => by
    have := loopsTo_len (N := N) (ps := ps) (pl := pl) (z := z) k
    unfold loopsTo
    split <;> simp <;> omega
def LoopsEnd (w : World) (N root : Nat) (ps : List (Int × Int)) (e : Ending) (w' : World) : Prop :=
  ∃ v vs id pl z, TD N root ps id pl z ∧ e = .returned (.tuple #[v, .int .i64 0]) ∧ Lps w' w.heap.size v vs (loopsTo N ps pl z N) ∧ Below w.heap.size w w'

set_option maxHeartbeats 8000000 in
set_option maxRecDepth 100000 in
theorem loops_good (N root : Nat) (a : Option Addr) (n c : Nat) (ps : List (Int × Int)) (hl : ps.length = n) (w : World) (hE : Pairs w a ps) (hok : gchk (N : Int) ps = 0) (hr : root < N) :
    Calls Try.prog 21 #[.agg #[.int .i64 (N : Int), .slice a n c], .int .i64 (root : Int)] w (LoopsEnd w N root ps) := by
  have hg := gchk_ok hok
  have hlen := hg.len
  have hN := hg.hi
  rw [hl] at hlen
  obtain ⟨w0, hw0⟩ : ∃ w0, w.alloc (Obj.cells #[Value.int .i64 (N : Int), Value.slice a n c] 24) = w0 := ⟨_, rfl⟩
  have hz0 : w0.heap.size = w.heap.size + 1 := by rw [← hw0]; simp
  have g0 : w0.cell? ⟨w.heap.size, 0, none⟩ = some (.int .i64 (N : Int)) := by rw [← hw0]; simp [go_sem]
  have g1 : w0.cell? ⟨w.heap.size, 1, none⟩ = some (.slice a n c) := by rw [← hw0]; simp [go_sem]
  have hb0 : Below w.heap.size w w0 := by rw [← hw0]; exact (Below.refl w.heap.size w).alloc (Nat.le_refl _) _
  have HB0 := Lib.hid hb0
  have HE := Lib.hid (hE.below hb0 (Nat.le_refl _))
  have Hl := Lib.hid hl
  have Hg := Lib.hid hg
  have Hok := Lib.hid hok
  have Hw0 := Lib.hid hw0
  clear hE hb0 hl hg hok hw0
  go_enter Try.func21, Try.ntmps21
  go_wp2_with fail
  rw [Hw0.out]
  refine (doms_good N root a n c ps Hl.out w0 HE.out Hok.out hr).mono ?_
  rintro e w1 ⟨gi, gp, gz, id, pl, z, rfl, hri, hrp, hrz, htd, hb1⟩
  have hs1 := hb1.size
  obtain ⟨w2, hw2⟩ : ∃ w2, w1.alloc (Obj.cells #[.slice (some ⟨gi, 0, none⟩) N N, .slice (some ⟨gp, 0, none⟩) N N, .slice (some ⟨gz, 0, none⟩) N N] 54) = w2 := ⟨_, rfl⟩
  have hz2 : w2.heap.size = w1.heap.size + 1 := by rw [← hw2]; simp
  have hb2 : Below w1.heap.size w1 w2 := by rw [← hw2]; exact (Below.refl w1.heap.size w1).alloc (Nat.le_refl _) _
  have b3 : B3 w2 w1.heap.size (.slice (some ⟨gi, 0, none⟩) N N) (.slice (some ⟨gp, 0, none⟩) N N) (.slice (some ⟨gz, 0, none⟩) N N) := by
    have := B3.new w1 (.slice (some ⟨gi, 0, none⟩) N N) (.slice (some ⟨gp, 0, none⟩) N N) (.slice (some ⟨gz, 0, none⟩) N N)
    rw [hw2] at this; exact this
  have g0' := (hb1.cell (p := ⟨w.heap.size, 0, none⟩) (by show w.heap.size < _; omega)).trans g0
  have g1' := (hb1.cell (p := ⟨w.heap.size, 1, none⟩) (by show w.heap.size < _; omega)).trans g1
  have hb02 : Below w0.heap.size w0 w2 := hb1.trans (hb2.mono hs1)
  have HB02 := Lib.hid hb02
  have HB3 := Lib.hid b3
  have HP2 := Lib.hid (hrp.ints.below hb2 (Nat.le_refl _))
  have HZ2 := Lib.hid (hrz.ints.below hb2 (Nat.le_refl _))
  have Hlp : Hid (pl.length = N) := by
    obtain ⟨_, _, _, _, _, _, _, _, _, hZ, hP⟩ := htd.ex; exact hP.lp
  have Hlz : Hid (z.length = N) := by
    obtain ⟨_, _, _, _, _, _, _, _, _, hZ, hP⟩ := htd.ex; exact hZ.ln
  have HTD := Lib.hid htd
  have Hw2 := Lib.hid hw2
  have ga : ∀ o, (w1.alloc o).cell? ⟨w.heap.size, 0, none⟩ = some (.int .i64 (N : Int)) ∧ (w1.alloc o).cell? ⟨w.heap.size, 1, none⟩ = some (.slice a n c) := fun o => by
    have hb := (Below.refl w1.heap.size w1).alloc (Nat.le_refl _) o
    exact ⟨(hb.cell (p := ⟨w.heap.size, 0, none⟩) (by show w.heap.size < _; omega)).trans g0', (hb.cell (p := ⟨w.heap.size, 1, none⟩) (by show w.heap.size < _; omega)).trans g1'⟩
  have ga0 := fun o => (ga o).1
  have ga1 := fun o => (ga o).2
  have Hgb : Hid (∀ X, Below w2.heap.size w2 X → X.cell? ⟨w.heap.size, 0, none⟩ = some (.int .i64 (N : Int))) := fun X hX => by
    refine (hX.cell (p := ⟨w.heap.size, 0, none⟩) (by show w.heap.size < _; omega)).trans ?_
    rw [← hw2]; exact ga0 _
  clear hb1 hri hrp hrz htd hb2 b3 hb02 hw2 g0 g1 ga g0' g1'
  go_wp2_with fail
  rw [Hw2.out]
  refine (preds_pairs N a n c ps Hl.out w2 (HE.out.below HB02.out (Nat.le_refl _)) Hg.out).mono ?_
  rintro e w3 ⟨G, vs, rfl, hvs, hrw, hb3⟩
  have hs3 := hb3.size
  have HG : Hid (RowsI w3 G N (suD (prev ps))) := rowsI_of Hg.out hrw
  have HP := Lib.hid (HP2.out.below hb3 (Nat.le_refl _))
  have HZ := Lib.hid (HZ2.out.below hb3 (Nat.le_refl _))
  have HB3' := Lib.hid (HB3.out.ext hb3)
  have cN := Hgb.out w3 hb3
  have HW := Lib.hid (HB0.out.trans ((HB02.out.trans (hb3.mono HB02.out.size)).mono (by omega)))
  have hgl : w.heap.size < w3.heap.size := by omega
  have hprN := preds_lt Hg.out
  have HprN := Lib.hid hprN
  have HprL : Hid (∀ v, (suD (prev ps) v).length ≤ 100000) := fun v => by
    have h := suD_len (prev ps) v
    rw [length_prev, Hl.out] at h; omega
  have hB33 : Hid (Below w3.heap.size w3 w3) := Below.refl _ _
  have hL0 : Hid (Lps w3 w3.heap.size nl [] (loopsTo N ps pl z 0)) := Lps.nil _ _
  clear hvs hrw hb3 HP2 HZ2 HB3 Hgb ga0 ga1 hprN
  go_wp2
  go_loopw [9, 27] (fun v x W => ∃ (h : Nat) (vs : List (Nat × Value)), x = .int .i64 (h : Int) ∧ h ≤ N ∧ Hid (Below w3.heap.size w3 W) ∧ Hid (Lps W w3.heap.size v vs (loopsTo N ps pl z h))) (fun _ x _ => N - (intOf x).toNat)
  case atStart => exact ⟨0, [], rfl, Nat.zero_le _, hB33, hL0⟩
  case round =>
    clear cN hB33 hL0
    obtain ⟨h, vs, rfl, hhN, HB, HL⟩ := hrel
    by_cases hlt : h < N
    · obtain ⟨ra, rc, cG1, hzr⟩ := HG.out h hlt
      have cG2 := (HB.out.cell (p := ⟨G, h, none⟩) (World.block_lt_of_cell? _ _ cG1)).trans cG1
      obtain ⟨m, hm⟩ : ∃ m, (suD (prev ps) h).length = m := ⟨_, rfl⟩
      rw [hm] at cG2
      have Hm := Lib.hid hm
      have hmL : m ≤ 100000 := by rw [← hm]; exact HprL.out h
      have hzw : Hid (Ints w3 ra (ni (suD (prev ps) h))) := hzr
      have hO : Hid (Own wr wr.heap.size nl (ni (startsTo ps pl z h 0))) := Own.nil _ _
      have hB9 : Hid (Below wr.heap.size wr wr) := Below.refl _ _
      clear hm cG1 hzr
      rename World => wo
      have hN' : N ≤ 8192 := by omega
      have hrng := HTD.out.rng hN' hlt
      go_wp2
      go_loopw [11, 35] (fun us x W => ∃ q : Nat, x = .int .i64 (q : Int) ∧ q ≤ m ∧ Hid (Own W wo.heap.size us (ni (startsTo ps pl z h q))) ∧ Hid (Below wo.heap.size wo W)) (fun _ x _ => m - (intOf x).toNat)
      case atStart => exact ⟨0, rfl, Nat.zero_le _, hO, hB9⟩
      case round =>
        clear cG2 hO hB9
        obtain ⟨q, rfl, hqm, HO, HBi⟩ := hrel
        have hwz := HB.out.size
        have hiz := HBi.out.size
        have HB1' : Hid (Below w3.heap.size w3 wr) := HB.out.trans (HBi.out.mono hwz)
        have bx := HB3'.out.ext HB1'.out
        have c0 := bx.c0
        have c1 := bx.c1
        have c2 := bx.c2
        have hsl : (startsTo ps pl z h q).length ≤ m := by rw [← Hm.out]; exact startsTo_len
        obtain ⟨au, cu, rfl, hau⟩ := HO.out.shape
        obtain ⟨s, hs⟩ : ∃ s, (startsTo ps pl z h q).length = s := ⟨_, rfl⟩
        rw [ni_len, hs] at HO ⊢
        rw [hs] at hsl
        have Hs := Lib.hid hs
        by_cases hq : q < m
        · have hyl : q < (suD (prev ps) h).length := by rw [Hm.out]; exact hq
          obtain ⟨v, hv⟩ : ∃ v, (suD (prev ps) h)[q] = v := ⟨_, rfl⟩
          have hvN : v < N := HprN.out h v (by rw [← hv]; exact List.getElem_mem _)
          have Hsu := Lib.hid (startsTo_succ (pl := pl) (z := z) hyl hv)
          obtain ⟨rb, ro, rfl, hrc⟩ := (hzw.out.below HB1'.out (Nat.le_refl _)) (by rw [ni_len]; omega)
          have cY := hrc q (by rw [ni_len]; exact hyl)
          rw [show (ni (suD (prev ps) h)).getD q 0 = ((v : Nat) : Int) by rw [← hv]; unfold ni; simp [List.getD_eq_getElem?_getD, hyl]] at cY
          have hcall := dominates_any N h v (.slice (some ⟨gi, 0, none⟩) N N) gp N gz N pl z Hlp.out Hlz.out hlt hvN wr (HP.out.below HB1'.out (Nat.le_refl _)) (HZ.out.below HB1'.out (Nat.le_refl _)) hrng.1 hrng.2
          obtain ⟨b, hb⟩ : ∃ b, domB pl z h v = b := ⟨_, rfl⟩
          rw [hb] at hcall Hsu
          cases b with
          | false =>
            have Hcall := Lib.hid hcall
            have Hnx : Hid (∀ W, Below wr.heap.size wr W → Hid (Own W wo.heap.size (.slice au s cu) (ni (startsTo ps pl z h (q + 1)))) ∧ Hid (Below wo.heap.size wo W)) := fun W hW => ⟨by
              show Own _ _ _ _
              rw [Hsu.out]; simpa using HO.out.below hW (Nat.le_refl _), HBi.out.trans (hW.mono hiz)⟩
            clear hcall hb hrc hv hyl hau hs bx HO HBi Hsu
            go_wp2_with fail
            refine Hcall.out.mono ?_
            rintro e w5 ⟨rfl, hb5⟩
            obtain ⟨O5, B5⟩ := Hnx.out w5 hb5
            clear hb5 Hnx
            go_wp2
            go_roundw
            case rel => exact ⟨q + 1, by go_num, hq, O5, B5⟩
            case measure => simp [intOf]; omega
          | true =>
            have Hcall := Lib.hid hcall
            have Hnx : Hid (∀ W, Below wr.heap.size wr W → Hid (Own W wo.heap.size (.slice au s cu) (ni (startsTo ps pl z h q))) ∧ Hid (Below wo.heap.size wo W)) := fun W hW => ⟨HO.out.below hW (Nat.le_refl _), HBi.out.trans (hW.mono hiz)⟩
            have Hsn : Hid (ni (startsTo ps pl z h (q + 1)) = ni (startsTo ps pl z h q) ++ [(v : Int)]) := by
              show _ = _; rw [Hsu.out]; simp [ni]
            clear hcall hb hrc hv hyl hau hs bx HO HBi Hsu
            go_wp2_with fail
            refine Hcall.out.mono ?_
            rintro e w5 ⟨rfl, hb5⟩
            obtain ⟨O5, B5⟩ := Hnx.out w5 hb5
            have hs5 := B5.out.size
            clear hb5 Hnx c0 c1 c2 cY
            go_wp2_with (at_builtin; refine wpList_append_big rfl _ _ rfl wo.heap.size _ (ni (startsTo ps pl z h q)) s (by rw [ni_len]; exact Hs.out) rfl (O5.out.alloc _) w5.heap.size (v : Int) rfl (by simp [go_sem]) (by omega) (by simp; omega) ?_; intro g8 cap8 w8 ho8 hg8 hat8; rw [← Hsn.out] at ho8; have O8 := Lib.hid ho8; have B8 := Lib.hid ((B5.out.alloc hs5 (.cells #[.int .i64 (v : Int)] 3)).grown hg8 (by simp; omega) (fun k hk => (World.ownsRow.lt O5.out k hk).1)); clear ho8 hg8 hat8)
            go_roundw
            case rel => exact ⟨q + 1, by go_num, hq, O8, B8⟩
            case measure => simp [intOf]; omega
        · obtain rfl : q = m := by omega
          have hall := startsTo_all (pl := pl) (z := z) Hm.out
          rw [hall] at HO hs hau
          clear hall Hs
          by_cases h0 : s = 0
          · have hnil : startsL ps pl z h = [] := List.length_eq_zero_iff.1 (by omega)
            have HL2 : Hid (Lps wr w3.heap.size u9 vs (loopsTo N ps pl z (h + 1))) := by
              show Lps _ _ _ _ _
              unfold loopsTo; rw [if_pos hnil, List.append_nil]; exact HL.out.below HBi.out (Nat.le_refl _)
            subst h0
            clear hnil hs hau bx HO HBi HL HB
            go_wp2
            go_roundw
            case rel => exact ⟨h + 1, vs, by go_num, hlt, HB1', HL2⟩
            case measure => simp [intOf]; omega
          · have hne : startsL ps pl z h ≠ [] := fun e => h0 (by rw [← hs, e]; rfl)
            have hcall := loop_any N h (suD (prev ps)) z (startsL ps pl z h) (.slice (some ⟨gi, 0, none⟩) N N) (.slice (some ⟨gp, 0, none⟩) N N) gz N G N au cu wr hN' hlt Hlz.out HprN.out HprL.out (fun y hy => HprN.out h y (List.mem_filter.1 hy).1) (by omega) (HZ.out.below HB1'.out (Nat.le_refl _)) (HG.out.below HB1'.out (Nat.le_refl _)) hau
            rw [hs] at hcall
            have h1 : 0 < s := by omega
            have hL3 := HL.out.below HBi.out (Nat.le_refl _)
            have hrz := HB1'.out.size
            have hfin : ∀ r w5, Own w5 wr.heap.size r (sortN (loopS N (suD (prev ps)) z h (startsL ps pl z h)).2) → Below wr.heap.size wr w5 → ∃ ra rl rc, r = .slice ra rl rc ∧ w3.heap.size ≤ w5.heap.size ∧ Hid (Lps w5 w3.heap.size u9 vs (loopsTo N ps pl z h)) ∧
                Hid (∀ g cap w8, OwnL w8 w3.heap.size (.slice (some ⟨g, 0, none⟩) (vs.length + 1) cap) (vs ++ [(h, .slice ra rl rc)]) → (w5.alloc (.cells #[.int .i64 (h : Int), .slice ra rl rc] 49)).grownBy w8 u9.ownBlock → Hid (Lps w8 w3.heap.size (.slice (some ⟨g, 0, none⟩) (vs.length + 1) cap) (vs ++ [(h, .slice ra rl rc)]) (loopsTo N ps pl z (h + 1))) ∧ Hid (Below w3.heap.size w3 w8)) := fun r w5 hr hb => by
              obtain ⟨ra, rc, rfl, _⟩ := hr.shape
              have hz5 := hb.size
              have h5 := hL3.below hb (Nat.le_refl _)
              refine ⟨ra, _, rc, rfl, by omega, h5, fun g cap w8 ho hg => ⟨?_, ?_⟩⟩
              · show Lps _ _ _ _ _
                unfold loopsTo; rw [if_neg hne]
                exact (h5.alloc _).push ((hr.mono hrz).alloc _) rfl ho hg
              · exact ((HB1'.out.trans (hb.mono hrz)).alloc (by omega) _).grown hg (by simp; omega) (fun k hk => (World.ownsRow.lt h5.own k hk).1)
            have hvn : vs.length ≤ 100000 := by have := hL3.len; have := loopsTo_len (N := N) (ps := ps) (pl := pl) (z := z) h; omega
            have Hcall := Lib.hid hcall
            have Hfin := Lib.hid hfin
            clear hne hcall hfin hL3 hs hau bx HO HBi HL HB
            go_wp2_with fail
            refine Hcall.out.mono ?_
            rintro e w5 ⟨r, rfl, hr5, hb5⟩
            obtain ⟨ra, rl, rc, rfl, hz5, HL5, HN5⟩ := Hfin.out r w5 hr5 hb5
            clear hr5 hb5 Hfin Hcall c0 c1 c2
            go_wp2_with (at_builtin; refine wpList_append_loop rfl _ _ rfl w3.heap.size _ vs vs.length rfl rfl (World.ownsRow.alloc HL5.out.own _) w5.heap.size h ra rl rc rfl (by simp [go_sem]) (by simp [go_sem]) hvn (by simp; omega) ?_; intro g8 cap8 w8 ho8 hg8; obtain ⟨HL8, HB8⟩ := HN5.out g8 cap8 w8 ho8 hg8; clear ho8 hg8)
            go_roundw
            case rel => exact ⟨h + 1, _, by go_num, hlt, HB8, HL8⟩
            case measure => simp [intOf]; omega
    · obtain rfl : h = N := by omega
      have hfin : Hid (LoopsEnd w h root ps (.returned (.tuple #[u9, .int .i64 0])) wr) := ⟨_, vs, id, pl, z, HTD.out, rfl, HL.out.mono HW.out.size, HW.out.trans (HB.out.mono HW.out.size)⟩
      clear HL HB
      go_wp2
      try rw [Exit.noGoto_ret]
      refine bodyPost_ret (v := .tuple #[u9, .int .i64 0]) (by simp [results, Try.results21, go_sem]) rfl ?_
      exact hfin.out
end Go.Proofs.Ytcmliokkamgcdaa
