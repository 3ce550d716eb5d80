/-
  The definition's Path.
-/
import Derived.Test.YthgnbpiemkcdhaaGGreedM
import Derived.Test.YthgnbpiemkcdhaaGRRch
namespace Go.Proofs.Ythgnbpiemkcdhaa
open Go.RowKit Go.Shelf
set_option linter.unusedVariables false

theorem rturn_at (N : Int) (a : Option Addr) (n c : Nat) (ps : List (Int × Int)) (hl : ps.length = n) (w : World) (hn : n ≤ 100000) (hE : Edg w a c ps) (hok : gchk N ps = 0) :
    Calls Try.prog 20 #[.agg #[.int .i64 N, .slice a n c]] w (RTurnEnd w N ps) := rturn_good N a n c ps hl w hn hE hok
theorem goodD_bad {d : List Int} {dv w : Int} (h : d.getD w.toNat 0 ≠ dv - 1 ∨ d.getD w.toNat 0 < 0) : ¬ goodD d dv w = true := fun hg => by
  have := goodD_iff.1 hg; omega
/-- Where the search for the next node stands. -/
def NX (d : List Int) (e : Int) (L : List Int) (u : Int) (k : Nat) (x : Int) : Prop := (x = -1 ∧ nxt d e (L.drop k) = u) ∨ x = u
def PathR (w : World) (N : Nat) (ps : List (Int × Int)) (fr t : Int) (e : Ending) (w' : World) : Prop :=
  Below w.heap.size w w' ∧ if 0 ≤ (foundP N ps fr t).1.getD t.toNat 0 then ∃ r, e = .returned (.tuple #[r, .bool true]) ∧ Own w' w.heap.size r (pathL N ps fr t) else e = .returned (.tuple #[.slice none 0 0, .bool false])

set_option maxHeartbeats 8000000 in
set_option maxRecDepth 100000 in
theorem rpath_good (N : Nat) (a : Option Addr) (n c : Nat) (ps : List (Int × Int)) (hl : ps.length = n) (fr t : Nat) (w : World) (hE : Edg w a c ps) (hok : gchk (N : Int) ps = 0) (hf : fr < N) (ht : t < N) :
    Calls Try.prog 27 #[.agg #[.int .i64 (N : Int), .slice a n c], .int .i64 (fr : Int), .int .i64 (t : Int)] w (PathR w N ps (fr : Int) (t : Int)) := by
  have hg := gchk_ok hok
  have hlen := hg.len
  have hN := hg.hi
  rw [hl] at hlen
  have hnf : isNd (N : Int) (fr : Int) = true := isNd_iff.2 ⟨by omega, by omega⟩
  have hnt : isNd (N : Int) (t : Int) = true := isNd_iff.2 ⟨by omega, by omega⟩
  have Hnt := Lib.hid hnt
  have Hndf : Hid (nodeB (N : Int) ps (fr : Int) = true) := by show _ = _; unfold nodeB; rw [hok, hnf]; rfl
  have Hndt : Hid (nodeB (N : Int) ps (t : Int) = true) := by show _ = _; unfold nodeB; rw [hok, hnt]; rfl
  obtain ⟨w0, hw0⟩ : ∃ w0, w.alloc (Obj.cells #[Value.int .i64 (N : Int), Value.slice a n c] 24) = w0 := ⟨_, rfl⟩
  have hs0 : w.heap.size < w0.heap.size := by rw [← hw0]; simp
  have q0 : w0.cell? ⟨w.heap.size, 0, none⟩ = some (.int .i64 (N : Int)) := by rw [← hw0]; simp [go_sem]
  have q1 : w0.cell? ⟨w.heap.size, 1, none⟩ = some (.slice a n c) := by rw [← hw0]; simp [go_sem]
  have HB0 : Hid (Below w.heap.size w w0) := by show Below _ _ _; rw [← hw0]; exact (Below.refl w.heap.size w).alloc (Nat.le_refl _) _
  have HE := Lib.hid hE
  have Hl := Lib.hid hl
  have Hg := Lib.hid hg
  have Hok := Lib.hid hok
  have Hw0 := Lib.hid hw0
  clear hE hl hg hw0 hok hnf hnt
  go_enter Try.func27, Try.ntmps27
  go_wp2_with fail
  rw [Hw0.out]
  refine (rnode_at (N : Int) a n c ps (fr : Int) true Hndf.out w0 Hl.out (by unfold maxLen; omega) (HE.out.below HB0.out (Nat.le_refl _)).pairs).mono ?_
  rintro e w1 ⟨rfl, hb1⟩
  have hs1 : w.heap.size < w1.heap.size := by have := hb1.size; omega
  have c0 := (hb1.cell (p := ⟨w.heap.size, 0, none⟩) hs0).trans q0
  have c1 := (hb1.cell (p := ⟨w.heap.size, 1, none⟩) hs0).trans q1
  have HB1 := Lib.hid (HB0.out.trans (hb1.mono (Nat.le_of_lt hs0)))
  clear hb1 q0 q1
  go_wp2_with fail
  refine (rnode_at (N : Int) a n c ps (t : Int) true Hndt.out w1 Hl.out (by unfold maxLen; omega) (HE.out.below HB1.out (Nat.le_refl _)).pairs).mono ?_
  rintro e w2 ⟨rfl, hb2⟩
  have hs2 : w.heap.size < w2.heap.size := by have := hb2.size; omega
  have d0 := (hb2.cell (p := ⟨w.heap.size, 0, none⟩) hs1).trans c0
  have d1 := (hb2.cell (p := ⟨w.heap.size, 1, none⟩) hs1).trans c1
  have HB2 := Lib.hid (HB1.out.trans (hb2.mono (Nat.le_of_lt hs1)))
  clear hb2 c0 c1
  go_wp2_with fail
  refine (rturn_at (N : Int) a n c ps Hl.out w2 (by omega) (HE.out.below HB2.out (Nat.le_refl _)) Hok.out).mono ?_
  rintro e w3 ⟨hb3, qs, ra, rc, hcan, hqn, hqp, rfl⟩
  have hs3 : w.heap.size < w3.heap.size := by have := hb3.size; omega
  have e0 := (hb3.cell (p := ⟨w.heap.size, 0, none⟩) hs2).trans d0
  have e1 := (hb3.cell (p := ⟨w.heap.size, 1, none⟩) hs2).trans d1
  have hperm := Canon.perm Hg.out hcan
  have Hgq := Lib.hid (Hg.out.turn hcan.1 hperm)
  have Hperm := Lib.hid hperm
  have HB3 := Lib.hid (HB2.out.trans (hb3.mono (Nat.le_of_lt hs2)))
  obtain ⟨qn, hqn2⟩ : ∃ qn, qs.length = qn := ⟨_, rfl⟩
  have Hqn := Lib.hid hqn2
  rw [hqn2]
  have Hqp := Lib.hid hqp
  obtain ⟨w4, hw4⟩ : ∃ w4, w3.alloc (.cells #[.int .i64 (t : Int)] 3) = w4 := ⟨_, rfl⟩
  have hb4 : Below w3.heap.size w3 w4 := by rw [← hw4]; exact (Below.refl _ _).alloc (Nat.le_refl _) _
  have hi4 : Ints w4 (some ⟨w3.heap.size, 0, none⟩) [(t : Int)] := by rw [← hw4]; exact one_ints w3 (t : Int) _
  have hs4 : w.heap.size < w4.heap.size := by have := hb4.size; omega
  have f0 := (hb4.cell (p := ⟨w.heap.size, 0, none⟩) hs3).trans e0
  have f1 := (hb4.cell (p := ⟨w.heap.size, 1, none⟩) hs3).trans e1
  have Hqp4 := Lib.hid (hqp.below hb4 (Nat.le_refl _))
  have Hi4 := Lib.hid hi4
  have HB4 := Lib.hid (HB3.out.trans (hb4.mono (Nat.le_of_lt hs3)))
  have Hw4 := Lib.hid hw4
  clear hb3 d0 d1 e0 e1 hcan hqn hqp hperm hqn2 hw4 hb4 hi4
  go_wp2_with fail
  rw [Hw4.out]
  refine (rdist_good N ra qn rc qs Hqn.out (some ⟨w3.heap.size, 0, none⟩) 1 1 [(t : Int)] rfl w4 Hqp4.out Hgq.out Hi4.out (by unfold maxLen; omega)).mono ?_
  rintro e w5 ⟨S, d, rfl, hrow, hdist, hb5⟩
  have hs5 : w.heap.size < w5.heap.size := by have := hb5.size; omega
  have g0 := (hb5.cell (p := ⟨w.heap.size, 0, none⟩) hs4).trans f0
  have g1 := (hb5.cell (p := ⟨w.heap.size, 1, none⟩) hs4).trans f1
  have hrd := hdist.rd Hperm.out Hnt.out
  have HB5 := Lib.hid (HB4.out.trans (hb5.mono (Nat.le_of_lt hs4)))
  have hSlt := (World.ownsRow.lt hrow S rfl).2
  have hdl := hrd.len
  have cF := hrow.cell (i := fr) (by omega)
  obtain ⟨df, hdf⟩ : ∃ df, d.getD fr 0 = df := ⟨_, rfl⟩
  rw [hdf] at cF
  have hfo := found_iff Hg.out (fr := (fr : Int)) (t := (t : Int)) (by omega) (by omega) (by omega) (by omega) hrd
  rw [Int.toNat_natCast, Int.toNat_natCast, hdf] at hfo
  have Hrd := Lib.hid hrd
  have Hrow := Lib.hid hrow
  clear hb5 f0 f1 hrd hdist hrow
  by_cases hneg : df < 0
  · have hno : Hid (¬ 0 ≤ (foundP (N : Int) ps (fr : Int) (t : Int)).1.getD (t : Int).toNat 0) := by show ¬ _; rw [Int.toNat_natCast, hfo]; omega
    clear hfo hdf
    go_wp2
    refine bodyPost_ret (v := .tuple #[.slice none 0 0, .bool false]) (by simp [results, Try.results27, go_sem]) rfl ?_
    refine ⟨HB5.out, ?_⟩
    rw [if_neg (by have := hno.out; omega)]
  · have hyes : Hid (0 ≤ (foundP (N : Int) ps (fr : Int) (t : Int)).1.getD (t : Int).toNat 0) := by show _ ≤ _; rw [Int.toNat_natCast]; exact hfo.2 (by omega)
    have hge : 0 ≤ df := by omega
    have hpl := path_greedy Hg.out (by omega) (by omega) (by omega) (by omega) Hrd.out hyes.out
    have hdN := Hrd.out.bnd (fr : Int) (by omega) (by omega)
    rw [Int.toNat_natCast, hdf] at hpl hdN
    obtain ⟨D, rfl⟩ : ∃ D : Nat, df = (D : Int) := ⟨df.toNat, by omega⟩
    rw [Int.toNat_natCast] at hpl
    have Hpl := Lib.hid hpl
    have Hdf := Lib.hid hdf
    clear hfo hpl hdf
    go_wp2_with fail
    refine (rlists_good N a n c ps Hl.out w5 (HE.out.below HB5.out (Nat.le_refl _)) Hg.out).mono ?_
    rintro e w6 ⟨G, vs0, rfl, hvs, hrw, hb6⟩
    have hs6 : w.heap.size < w6.heap.size := by have := hb6.size; omega
    have hSlt6 : S < w6.heap.size := by have := hb6.size; omega
    have HB6 := Lib.hid (HB5.out.trans (hb6.mono (Nat.le_of_lt hs5)))
    have hrow6 : RowI w6 w4.heap.size S d := ownsRow_below Hrow.out hb6 (Nat.le_refl _)
    have Hrow6 := Lib.hid hrow6
    have Hrw := Lib.hid hrw
    have Hvs := Lib.hid hvs
    have Ho0 := Lib.hid (own_new1 w6 w6.heap.size (Nat.le_refl _) (fr : Int))
    have Hb0 := Lib.hid ((Below.refl w6.heap.size w6).alloc (Nat.le_refl _) (.cells #[.int .i64 (fr : Int)] 3))
    clear hb6 g0 g1 hrow6 hrw hvs cF
    go_wp2
    go_loopw [10, 11] (fun vo i W => ∃ (v f : Nat) (acc : List Int), i = .int .i64 (v : Int) ∧ v < N ∧ d.getD v 0 = (f : Int) ∧ acc.length + f = D + 1 ∧ Own W w6.heap.size vo acc ∧ acc ++ grd ps d f (v : Int) = pathL (N : Int) ps (fr : Int) (t : Int) ∧ Below w6.heap.size w6 W) (fun _ i _ => (d.getD (intOf i).toNat 0).toNat)
    case atStart => exact ⟨fr, D, [(fr : Int)], rfl, hf, Hdf.out, by simp; omega, Ho0.out, Hpl.out.symm, Hb0.out⟩
    case round =>
      clear Ho0 Hb0 Hpl Hdf
      obtain ⟨v, f, acc, rfl, hvN, hdv, hacc, ho, hgr, hb⟩ := hrel
      have hsz := hb.size
      have Ho := Lib.hid ho
      have Hb := Lib.hid hb
      have hgreat : (v : Int) < (N : Int) := by omega
      by_cases hvt : v = t
      · subst hvt
        have hf0 : f = 0 := by have := Hrd.out.at_end; rw [Int.toNat_natCast, hdv] at this; omega
        have Hfin : Hid (acc = pathL (N : Int) ps (fr : Int) (v : Int)) := by
          show _ = _
          rw [← hgr, hf0]
          show acc = acc ++ []
          rw [List.append_nil]
        clear ho hb hgr hdv
        go_wp2
        refine bodyPost_ret (v := .tuple #[u10, .bool true]) (by simp [results, Try.results27, go_sem]) rfl ?_
        refine ⟨HB6.out.trans (Hb.out.mono (Nat.le_of_lt hs6)), ?_⟩
        rw [if_pos (by have := hyes.out; omega)]
        exact ⟨_, rfl, by rw [← Hfin.out]; exact Ho.out.mono (Nat.le_of_lt hs6)⟩
      · have hvt2 : ((v : Int) == (t : Int)) = false := by rw [beq_eq_false_iff_ne]; omega
        obtain ⟨g, rfl⟩ : ∃ g, f = g + 1 := by
          refine ⟨f - 1, ?_⟩
          rcases Nat.eq_zero_or_pos f with e | e
          · exfalso
            have := Hrd.out.zero (x := (v : Int)) (by omega) (by omega) (by rw [Int.toNat_natCast, hdv, e]; rfl)
            omega
          · omega
        have hnx := Hrd.out.next Hg.out (v := (v : Int)) (f := g) (by omega) (by omega) (by rw [Int.toNat_natCast]; exact hdv)
        rw [Int.toNat_natCast, hdv] at hnx
        have hgr2 : acc ++ [nxt d (((g + 1 : Nat) : Int)) (succL ps (v : Int))] ++ grd ps d g (nxt d (((g + 1 : Nat) : Int)) (succL ps (v : Int))) = pathL (N : Int) ps (fr : Int) (t : Int) := by
          rw [← hgr, List.append_assoc]
          show _ = acc ++ (nxt d (d.getD (v : Int).toNat 0) (succL ps (v : Int)) :: grd ps d g (nxt d (d.getD (v : Int).toNat 0) (succL ps (v : Int))))
          rw [Int.toNat_natCast, hdv]
          rfl
        obtain ⟨e, he⟩ : ∃ e : Int, ((g + 1 : Nat) : Int) = e := ⟨_, rfl⟩
        rw [he] at hnx hgr2 hdv
        have he1 : 0 < e := by omega
        have he2 : e ≤ 8192 := by
          have := Hrd.out.bnd (v : Int) (by omega) (by omega)
          rw [Int.toNat_natCast, hdv] at this
          omega
        have hvl : v < (listsL N ps).length := by rw [length_listsL]; exact hvN
        obtain ⟨au, cu, cG, hvv, hzr, _⟩ := Hrw.out.at_ hvl
        have hrlt := fun r h => (World.ownsRow.lt (Hrw.out.row v hvl) r h).2
        rw [hvv] at hrlt
        rw [getD_listsL hvN] at cG hzr hrlt
        have hGlt : G < w6.heap.size := (World.ownsRow.lt Hrw.out.own G rfl).2
        have hll := succL_take_len ps ps.length (v : Int)
        rw [List.take_length, Hl.out] at hll
        have hnode := fun x hx => succL_node Hg.out x (v := (v : Int)) hx
        obtain ⟨L, hL⟩ : ∃ L, succL ps (v : Int) = L := ⟨_, rfl⟩
        obtain ⟨l, hlL⟩ : ∃ l, L.length = l := ⟨_, rfl⟩
        rw [hL, hlL] at cG hrlt hll
        rw [hL] at hzr hnode hnx hgr2
        obtain ⟨u, hu⟩ : ∃ u, nxt d e L = u := ⟨_, rfl⟩
        rw [hu] at hnx hgr2
        obtain ⟨_, hdu, hu0, huN⟩ := hnx
        obtain ⟨u, rfl⟩ : ∃ x : Nat, u = (x : Int) := ⟨u.toNat, by omega⟩
        rw [Int.toNat_natCast] at hdu
        have huN' : u < N := by omega
        have cV := (hb.cell (p := ⟨S, v, none⟩) hSlt6).trans (Hrow6.out.cell (i := v) (by omega))
        rw [hdv] at cV
        have HlL := Lib.hid hlL
        have Hzr := Lib.hid hzr
        have Hnode := Lib.hid hnode
        have Hrlt := Lib.hid hrlt
        have Hu := Lib.hid hu
        have Hgr := Lib.hid hgr2
        have Hdu := Lib.hid hdu
        have Hdv := Lib.hid hdv
        have He := Lib.hid he
        have hNX0 : NX d e L (u : Int) 0 (-1) := .inl ⟨rfl, by rw [List.drop_zero]; exact hu⟩
        have HNX0 := Lib.hid hNX0
        clear ho hb hgr hgr2 hdv hL hlL hu hdu hzr hnode hrlt hvv hvl hNX0 he cV
        go_wp2
        go_loopw [12, 13] (fun x i W => ∃ (k : Nat) (y : Int), k ≤ l ∧ x = .int .i64 y ∧ i = .int .i64 k ∧ NX d e L (u : Int) k y ∧ Own W w6.heap.size u10 acc ∧ Below w6.heap.size w6 W) (fun _ i _ => l - (intOf i).toNat)
        case atStart => exact ⟨0, -1, Nat.zero_le _, rfl, rfl, HNX0.out, Ho.out, Hb.out⟩
        case round =>
          clear Ho Hb HNX0
          obtain ⟨k, y, hk, rfl, rfl, hnx, ho, hb⟩ := hrel
          have hsz := hb.size
          have Ho := Lib.hid ho
          have Hb := Lib.hid hb
          have cGw := (hb.cell (p := ⟨G, v, none⟩) hGlt).trans cG
          have cV := (hb.cell (p := ⟨S, v, none⟩) hSlt6).trans (Hrow6.out.cell (i := v) (by omega))
          rw [Hdv.out] at cV
          by_cases hyu : y = (u : Int)
          · subst hyu
            have hun : decide ((u : Int) < 0) = false := decide_eq_false (by omega)
            clear hnx ho hb cV
            by_cases hkl : k < l
            · go_wp2_with (at_builtin; refine wpList_append_lie rfl _ _ rfl w6.heap.size _ acc _ rfl rfl (Own.alloc Ho.out _) wr.heap.size (u : Int) rfl (cell_at _ _ _ _ (by simp)) (by omega) (by simp; omega) ?_)
              intro g5 cap5 w5' ho5 hg5 hat5
              have Ho5 := Lib.hid ho5
              have Hb5 := Lib.hid ((Hb.out.alloc hsz _).grown hg5 (by simp; omega) (fun r hr => (World.ownsRow.lt Ho.out r hr).1))
              clear ho5 hg5 hat5
              go_wp2
              go_roundw
              case rel => exact ⟨u, g, acc ++ [(u : Int)], rfl, huN', Hdu.out, by simp; omega, Ho5.out, Hgr.out, Hb5.out⟩
              case measure => simp only [intOf, Int.toNat_natCast]; rw [Hdu.out, Hdv.out]; have := He.out; omega
            · obtain rfl : l = k := by omega
              clear cGw
              have cGw := (Hb.out.cell (p := ⟨G, v, none⟩) hGlt).trans cG
              go_wp2_with (at_builtin; refine wpList_append_lie rfl _ _ rfl w6.heap.size _ acc _ rfl rfl (Own.alloc Ho.out _) wr.heap.size (u : Int) rfl (cell_at _ _ _ _ (by simp)) (by omega) (by simp; omega) ?_)
              intro g5 cap5 w5' ho5 hg5 hat5
              have Ho5 := Lib.hid ho5
              have Hb5 := Lib.hid ((Hb.out.alloc hsz _).grown hg5 (by simp; omega) (fun r hr => (World.ownsRow.lt Ho.out r hr).1))
              clear ho5 hg5 hat5
              go_wp2
              go_roundw
              case rel => exact ⟨u, g, acc ++ [(u : Int)], rfl, huN', Hdu.out, by simp; omega, Ho5.out, Hgr.out, Hb5.out⟩
              case measure => simp only [intOf, Int.toNat_natCast]; rw [Hdu.out, Hdv.out]; have := He.out; omega
          · obtain ⟨rfl, hdr⟩ : y = -1 ∧ nxt d e (L.drop k) = (u : Int) := by
              rcases hnx with h | h
              · exact h
              · exact absurd h hyu
            have hkl : k < l := by
              rcases Nat.lt_or_ge k l with h | h
              · exact h
              · exfalso
                rw [List.drop_eq_nil_of_le (by rw [HlL.out]; exact h)] at hdr
                have : (-1 : Int) = (u : Int) := hdr
                omega
            obtain ⟨rb, ro, rfl, hrc⟩ := Hzr.out (by rw [HlL.out]; omega)
            have cW := hrc k (by rw [HlL.out]; exact hkl)
            have hrb := Hrlt.out rb rfl
            obtain ⟨z, hz⟩ : ∃ z, L.getD k 0 = z := ⟨_, rfl⟩
            rw [hz] at cW
            have hzn := Hnode.out z (by rw [← hz]; exact mem_getD L k (by rw [HlL.out]; exact hkl))
            obtain ⟨z, rfl⟩ : ∃ x : Nat, z = (x : Int) := ⟨z.toNat, by omega⟩
            have hzN : z < N := by omega
            replace cW := (hb.cell (p := ⟨rb, ro + k, none⟩) hrb).trans cW
            have cZ := (hb.cell (p := ⟨S, z, none⟩) hSlt6).trans (Hrow6.out.cell (i := z) (by omega))
            have hz1 : (z : Int) < (N : Int) := by omega
            obtain ⟨o, hoz⟩ : ∃ o, d.getD z 0 = o := ⟨_, rfl⟩
            rw [hoz] at cZ
            by_cases hoe : o = e - 1
            · subst hoe
              have hge0 : decide ((0 : Int) ≤ e - 1) = true := decide_eq_true (by omega)
              have hgd : goodD d e (z : Int) = true := goodD_iff.2 ⟨by rw [Int.toNat_natCast]; exact hoz, by rw [Int.toNat_natCast, hoz]; omega⟩
              have hzu := (nxt_drop_good (by rw [HlL.out]; exact hkl) hz hgd).symm.trans hdr
              have hnx2 : NX d e L (u : Int) (k + 1) (z : Int) := .inr hzu
              have Hnx2 := Lib.hid hnx2
              clear hnx ho hb hrc hz hgd hzu hnx2 hdr hoz hyu
              go_wp2
              go_quiet (fail)
              go_wp2
              go_roundw
              case rel => exact ⟨k + 1, (z : Int), by omega, rfl, by go_num, Hnx2.out, Ho.out, Hb.out.trans (Drawn.below ⟨_, rfl⟩ _)⟩
              case measure => simp [intOf]; omega
            · have hbeq : (o == e - 1) = false := by rw [beq_eq_false_iff_ne]; exact hoe
              have hnx2 : NX d e L (u : Int) (k + 1) (-1) := .inl ⟨rfl, by rw [← nxt_drop_bad (by rw [HlL.out]; exact hkl) hz (goodD_bad (.inl (by rw [Int.toNat_natCast, hoz]; exact hoe)))]; exact hdr⟩
              have Hnx2 := Lib.hid hnx2
              clear hnx ho hb hrc hz hnx2 hdr hoz hyu
              go_wp2
              go_quiet (fail)
              go_wp2
              go_roundw
              case rel => exact ⟨k + 1, -1, by omega, rfl, by go_num, Hnx2.out, Ho.out, Hb.out.trans (Drawn.below ⟨_, rfl⟩ _)⟩
              case measure => simp [intOf]; omega
end Go.Proofs.Ythgnbpiemkcdhaa
