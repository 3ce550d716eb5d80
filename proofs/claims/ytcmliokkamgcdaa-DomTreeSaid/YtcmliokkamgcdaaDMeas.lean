/-
  (tree).measure: the sizes and the places.
-/
import Derived.Test.YtcmliokkamgcdaaDMeasM
import Derived.Test.YtcmliokkamgcdaaDExpM
import Derived.Test.YtcmliokkamgcdaaDRnd
import Derived.LoopTactic
namespace Go.Proofs.Ytcmliokkamgcdaa
open Go.RowKit Go.Shelf
set_option linter.unusedVariables false
attribute [local go_sem] Oper.semAt_some

structure DLaid0 (G : Prop) : Prop where
  out : G
theorem dlater0 {G T : Prop} (h : DLaid0 G → T) (p : G) : T := h ⟨p⟩
theorem d_region_noPanic {F : Fence} {n : Nat} {P : Program} {id : Nat} {ops : Array Oper} {b : Bool} {Q : Exit → Act → World → Prop} {a : Act} {w : World} (h : (Code.region id ops b).wpIn F n P (NoPanic Q) a w) : (Code.region id ops b).wpIn F n P Q a w :=
  Code.wpIn_mono NoPanic.imp h
/-- The law for a loop over slices.Backward; p1, p2: where index and value come, q: the loop's variable. -/
theorem rangeB {m : Nat} {zs : List Int} {g : Operand} {ps : Array Tmp} {assign body : Code} {Q : Exit → Act → World → Prop} {a : Act} {w : World} {n : Nat} (p1 p2 q : Nat)
    (h1 : 1 ≤ n) {gf : Nat} {lb : Array Value} (hg : a.eval g = .func (.func gf) #[] lb) (eg : ∀ args w, (callFunc gf args).run Try.prog w = .ok (.enter gf args) w)
    {Kp : World → World → Prop} {S Sp : List { i : Nat // i < m } → Prop} {N : Nat} (hseq : SeqStopsK Fence.wide (n - 1) Try.prog gf lb (fun x : { i : Nat // i < m } => #[Value.int .i64 (x.1 : Int), .int .i64 (zs.getD x.1 0)]) Kp S Sp N w)
    (hKt : ∀ {A B C : World}, Kp A B → Kp B C → Kp A C) (hKb : ∀ (W : World) (l : Nat) (o o' : Obj), w.heap.size ≤ l → W.heap[l]? = some o → o.isCells = false → o.isWalk = false → Kp W (W.putObj l o')) (hps : 2 = ps.size)
    (I : List { i : Nat // i < m } → World → Prop) (hI : OwnFrom w.heap.size I) (h0 : I [] w)
    (hassign : ∀ (l : Nat) (i : Nat) (y : Int) (W : World) (K : Act → World → Prop), K { tmps := ((a.tmps.setIfInBounds p1 (.int .i64 (i : Int))).setIfInBounds p2 (.int .i64 y)).setIfInBounds q (.int .i64 y), defers := [] } W →
      assign.wpIn (Fence.wide.inRound l) (n - 1 - 1) Try.prog (Exit.then K (fun _ _ _ => False)) { tmps := (ps.zip #[Value.int .i64 (i : Int), .int .i64 y]).foldl (fun t (p, v) => t.setIfInBounds p v) a.tmps, defers := [] } W)
    (hbody : ∀ (l : Nat) (pre : List { i : Nat // i < m }) (x : { i : Nat // i < m }) (W : World), I pre W → pre.length < N → body.wpIn (Fence.wide.inRound l) (n - 1 - 1) Try.prog (ownPostG w.heap.size Kp I (fun _ _ _ => False) (pre ++ [x]) W) { tmps := ((a.tmps.setIfInBounds p1 (.int .i64 (x.1 : Int))).setIfInBounds p2 (.int .i64 (zs.getD x.1 0))).setIfInBounds q (.int .i64 (zs.getD x.1 0)), defers := [] } W)
    (hdone : ∀ (D : Nat) (xs : List { i : Nat // i < m }) (W : World), w.heap.size ≤ D → S xs → I xs W → W.heap[D]? = some (.deferred (some [])) → Q .normal { a with defers := { target := .collected D, args := #[] } :: a.defers } W) :
    (Code.rangeFunc g ps assign body).wpIn Fence.wide n Try.prog Q a w :=
  wpIn_rangeFunc_ownG rfl h1 hg trivial eg hseq hKt hKb (Below.refl _ _) (fun _ => hps) I (fun _ _ _ => False) hI (fun _ _ _ _ _ hs _ _ => hs) h0
    (fun x => { tmps := ((a.tmps.setIfInBounds p1 (.int .i64 (x.1 : Int))).setIfInBounds p2 (.int .i64 (zs.getD x.1 0))).setIfInBounds q (.int .i64 (zs.getD x.1 0)), defers := [] }) (fun l x W K => hassign l x.1 _ W K) (fun l pre x W => hbody l pre x W) hdone (fun _ _ _ _ _ _ h _ => h.elim)

theorem getD_set_self' {l : List Int} {i : Nat} (z : Int) (h : i < l.length) : (l.set i z).getD i 0 = z := by
  rw [List.getD_eq_getElem?_getD, List.getElem?_set_self h]; rfl
theorem Row.self' {w : World} {base g cap : Nat} {zs : List Int} (h : Row w base g cap zs) : Row w g g cap zs := by
  obtain ⟨h1, h2⟩ := h
  refine ⟨h1, ?_⟩
  rcases h2 with h2 | ⟨g', cap', cur, hv, hb', hr⟩
  · exact .inl h2
  · refine .inr ⟨_, _, _, hv, ?_, hr⟩
    injection hv with hv _ _; injection hv with hv; injection hv with hv _ _; omega
theorem Row.not_deferred {w : World} {base g cap : Nat} {zs : List Int} (h : Row w base g cap zs) {x : Option (List Deferred)} (e : w.heap[g]? = some (.deferred x)) : False := by
  rcases h.2 with ⟨hv, _⟩ | ⟨g', cap', cur, hv, _, hh, _⟩
  · cases hv
  · have : g = g' := by injection hv with hv _ _; injection hv with hv; injection hv
    subst this; rw [hh] at e; cases e
def MeasEnd (w : World) (bp bz cp cz N k : Nat) (nd : List Nat) (D : Nat → Nat) (e : Ending) (w' : World) : Prop :=
  e = .returned (.tuple #[]) ∧ ∃ pl z fr, Row w' bp bp cp pl ∧ Row w' bz bz cz z ∧ ZF N k nd D z ∧ PI N k nd D z pl fr k ∧ Fr (fun q => q = bp ∨ q = bz) w w'
theorem ints_cell' {w : World} {b : Nat} {zs : List Int} (h : Ints w (some ⟨b, 0, none⟩) zs) {i : Nat} (hi : i < zs.length) : w.cell? ⟨b, i, none⟩ = some (.int .i64 (zs.getD i 0)) := by
  obtain ⟨b2, o2, e2, hs2⟩ := h (by omega)
  injection e2 with e2; injection e2 with a b' c
  subst a; subst b'
  have := hs2 i hi
  rwa [Nat.zero_add] at this
theorem fr_ints {P : Nat → Prop} {W W' : World} (h : Fr P W W') {b : Nat} {zs : List Int} (hz : Ints W (some ⟨b, 0, none⟩) zs) (hP : ¬ P b) : Ints W' (some ⟨b, 0, none⟩) zs := fun h0 => by
  obtain ⟨b2, o2, e2, hs2⟩ := hz h0
  have hb : b2 = b ∧ o2 = 0 := by injection e2 with e2; injection e2 with a b c; exact ⟨a.symm, b.symm⟩
  obtain ⟨rfl, rfl⟩ := hb
  refine ⟨b2, 0, rfl, fun i hi => ?_⟩
  have := hs2 i hi
  exact (h.cellAt ⟨b2, 0 + i, none⟩ (World.block_lt_of_cell? _ _ this) hP).1.trans this

set_option maxHeartbeats 8000000 in
set_option maxRecDepth 100000 in
theorem measure_any (N k : Nat) (nd : List Nat) (D : Nat → Nat) (id : List Int) (bi ci bp cp bz cz bo co : Nat) (w : World) (t : TreeOf N k nd D id) (hk2 : k ≤ 8192) (hco : k ≤ co) (hN : N ≤ 8192)
    (h1 : Ints w (some ⟨bi, 0, none⟩) id) (h2 : Row w bp bp cp (List.replicate N (-1))) (h3 : Row w bz bz cz (List.replicate N 0)) (h4 : Ints w (some ⟨bo, 0, none⟩) (ni nd)) (n1 : bi ≠ bp) (n2 : bi ≠ bz) (n3 : bo ≠ bp) (n4 : bo ≠ bz) (n5 : bp ≠ bz) :
    Calls Try.prog 49 #[.agg #[.slice (some ⟨bi, 0, none⟩) N ci, .slice (some ⟨bp, 0, none⟩) N cp, .slice (some ⟨bz, 0, none⟩) N cz], .slice (some ⟨bo, 0, none⟩) k co] w (MeasEnd w bp bz cp cz N k nd D) := by
  obtain ⟨i0, hi, hz0, hz1, hz2⟩ := info_parts int_info
  have k0 := t.k0
  have lk := t.lk
  obtain ⟨w1, hw1⟩ : ∃ w1, w.alloc (Obj.cells #[.slice (some ⟨bi, 0, none⟩) N ci, .slice (some ⟨bp, 0, none⟩) N cp, .slice (some ⟨bz, 0, none⟩) N cz] 54) = w1 := ⟨_, rfl⟩
  have hz : w1.heap.size = w.heap.size + 1 := by rw [← hw1]; simp
  have hzz : w.heap.size < w1.heap.size := by omega
  have hb1 : Below w.heap.size w w1 := by rw [← hw1]; exact (Below.refl w.heap.size w).alloc (Nat.le_refl _) _
  have s0 : w1.cell? ⟨w.heap.size, 0, none⟩ = some (.slice (some ⟨bi, 0, none⟩) N ci) := by rw [← hw1]; simp [go_sem]
  have s1 : w1.cell? ⟨w.heap.size, 1, none⟩ = some (.slice (some ⟨bp, 0, none⟩) N cp) := by rw [← hw1]; simp [go_sem]
  have s2 : w1.cell? ⟨w.heap.size, 2, none⟩ = some (.slice (some ⟨bz, 0, none⟩) N cz) := by rw [← hw1]; simp [go_sem]
  have H1 := Lib.hid (h1.below hb1 (Nat.le_refl _))
  have H2 := Lib.hid (h2.below hb1 h2.lt.2)
  have H3 := Lib.hid (h3.below hb1 h3.lt.2)
  have H4 := Lib.hid (h4.below hb1 (Nat.le_refl _))
  have lbp := h2.lt.2
  have lbz := h3.lt.2
  have HB1 := Lib.hid hb1
  have Hw1 := Lib.hid hw1
  have HT := Lib.hid t
  have Hlk := Lib.hid lk
  clear h1 h2 h3 h4 hb1 hw1 t hz lk
  refine (callsIn_wide (n := 6)).1 ?_
  refine callsIn_of_wp_marks Try.func49 rfl trivial ?_ rfl
  simp only [Try.ntmps49, List.size_toArray, List.length_cons, List.length_nil, Nat.reduceAdd, Nat.reduceSub, Array.replicate_succ, Array.replicate_zero, List.push_toArray, List.append_toArray, List.nil_append, List.cons_append]
  have hzl : (ni (nd.drop 1)).length = k - 1 := by rw [ni_len, List.length_drop, Hlk.out]
  have hze : ∀ i, i < k - 1 → (ni (nd.drop 1)).getD i 0 = ((nd.getD (i + 1) 0 : Nat) : Int) := fun i hi => by
    have : i + 1 < nd.length := by rw [Hlk.out]; omega
    unfold ni
    simp [List.getD_eq_getElem?_getD, this]
  have hnc : ∀ i, i < k - 1 → w1.cell? ⟨bo, 1 + i, none⟩ = some (.int .i64 ((ni (nd.drop 1)).getD i 0)) := fun i hi => by
    have := ints_cell' (H4.out) (i := 1 + i) (by rw [ni_len, Hlk.out]; omega)
    rw [this, hze i hi]
    unfold ni
    simp [List.getD_eq_getElem?_getD, Nat.add_comm 1 i, show i + 1 < nd.length by rw [Hlk.out]; omega]
  have Hnc := Lib.hid hnc
  have Hzl := Lib.hid hzl
  have Hze := Lib.hid hze
  clear hzl hze hnc
  gi_wp2_with fail
  all_goals
    first
      | (have hq1 : co = 1 := by assumption
         obtain ⟨O, hO⟩ : ∃ O : Obj, Obj.cells #[.slice (some ⟨bo, 0, none⟩) (k - 1) 0] 25 = O := ⟨_, rfl⟩
         have hs0 : (w1.alloc O).cell? ⟨w1.heap.size, 0, none⟩ = some (.slice (some ⟨bo, 0, none⟩) (k - 1) 0) := by rw [← hO]; simp [go_sem]
         have hcl : Hid (∀ i, i < k - 1 → w1.cell? ⟨bo, 0 + i, none⟩ = some (.int .i64 ((ni (nd.drop 1)).getD i 0))) := fun i hi => by omega)
      | (obtain ⟨O, hO⟩ : ∃ O : Obj, Obj.cells #[.slice (some ⟨bo, 1, none⟩) (k - 1) (co - 1)] 25 = O := ⟨_, rfl⟩
         have hs0 : (w1.alloc O).cell? ⟨w1.heap.size, 0, none⟩ = some (.slice (some ⟨bo, 1, none⟩) (k - 1) (co - 1)) := by rw [← hO]; simp [go_sem]
         have hcl : Hid (∀ i, i < k - 1 → w1.cell? ⟨bo, 1 + i, none⟩ = some (.int .i64 ((ni (nd.drop 1)).getD i 0))) := Hnc.out)
    have HO := Lib.hid hO
    clear hO
    rw [Hw1.out]
    refine ⟨trivial, (callsIn_wide.2 (backward_any _ _ _ _)).mono ?_⟩
    rintro e w2 ⟨rfl, rfl⟩
    gi_wp2
    rw [HO.out]
    obtain ⟨w2, hw2⟩ : ∃ w2, w1.alloc O = w2 := ⟨_, rfl⟩
    have hb2 : Below w1.heap.size w1 w2 := by rw [← hw2]; exact (Below.refl _ _).alloc (Nat.le_refl _) _
    have hz2' : w2.heap.size = w1.heap.size + 1 := by rw [← hw2]; simp
    have hz12 : w1.heap.size < w2.heap.size := by omega
    rw [hw2] at hs0 ⊢
    have q0 := (hb2.cell (p := ⟨w.heap.size, 0, none⟩) hzz).trans s0
    have q1 := (hb2.cell (p := ⟨w.heap.size, 1, none⟩) hzz).trans s1
    have q2 := (hb2.cell (p := ⟨w.heap.size, 2, none⟩) hzz).trans s2
    have K1 := Lib.hid (H1.out.below hb2 (Nat.le_refl _))
    have K2 := Lib.hid (H2.out.below hb2 (by omega))
    have K3 := Lib.hid (H3.out.below hb2 (by omega))
    have K4 := Lib.hid (H4.out.below hb2 (Nat.le_refl _))
    have hbo : bo < w1.heap.size := by
      obtain ⟨b2, o2, e2, hs2⟩ := H4.out (by rw [ni_len, Hlk.out]; exact k0)
      injection e2 with e2; injection e2 with e3 _ _
      have hb2' : b2 < w1.heap.size := World.block_lt_of_cell? _ _ (hs2 0 (by rw [ni_len, Hlk.out]; exact k0))
      omega
    have HB2 := Lib.hid (HB1.out.trans (hb2.mono (Nat.le_of_lt hzz)))
    have hstp := back_stops 5 (by omega) w1.heap.size bo _ _ (k - 1) (ni (nd.drop 1)) Hzl.out (by omega) w2 hs0 (fun i hi => (hb2.cell (p := ⟨bo, _, none⟩) hbo).trans (hcl.out i hi))
    have Hstp := Lib.hid hstp
    have hcl2 := Lib.hid (fun i (hi : i < k - 1) => (hb2.cell (p := ⟨bo, _, none⟩) hbo).trans (hcl.out i hi))
    clear hw2 hb2 hz2' hstp
    refine rangeB 14 15 5 (by omega) (gf := 80) (lb := #[.pointer (some ⟨w1.heap.size, 0, none⟩)]) rfl (enters_of Try.func80 (by kernel_rfl) rfl) Hstp.out KpG.trans (KpG.put (by omega) (by omega) (by omega)) rfl
      (fun pre W => Row W bz bz cz (zAll nd id (List.replicate N 0) pre) ∧ Fr (fun q => q = bz) w2 W) ?hI ⟨K3.out, Fr.refl _ _⟩ ?assign ?body ?done
    case hI =>
      rintro pre A B row ⟨h1, h2⟩ hg hr
      exact ⟨h1.kept hg (fun e => by have := (hr _ e.symm).1; omega), h2.grown hg (fun r e hlt => by have := (hr r e).1; omega)⟩
    case assign =>
      intro l x y W K hK
      gi_wp2
      exact hK
    case body =>
      rintro l pre x W ⟨hr, hf⟩ hlt
      first
       | exact absurd x.2 (by have hq2 : co = 1 := (by assumption); omega)
       | (have hx := x.2
          have hmem : nd.getD (x.1 + 1) 0 ∈ nd := at_mem (by rw [Hlk.out]; omega)
          have hvN := HT.out.node _ hmem
          have hat := HT.out.at_ (x.1 + 1) (by omega) (by omega)
          have hDlt := HT.out.lt (x.1 + 1) (by omega) (by omega)
          have hpN : nd.getD (D (x.1 + 1)) 0 < N := HT.out.node _ (at_mem (by rw [Hlk.out]; omega))
          have hsn : Hid (zAll nd id (List.replicate N 0) (pre ++ [x]) = zStep id (zAll nd id (List.replicate N 0) pre) (nd.getD (x.1 + 1) 0)) := zAll_snoc _ _ _ _ _
          rw [Hze.out x.1 x.2]
          obtain ⟨v, hv⟩ : ∃ v, nd.getD (x.1 + 1) 0 = v := ⟨_, rfl⟩
          obtain ⟨pp, hpp⟩ : ∃ v, nd.getD (D (x.1 + 1)) 0 = v := ⟨_, rfl⟩
          obtain ⟨z, hzd⟩ : ∃ z, zAll nd id (List.replicate N 0) pre = z := ⟨_, rfl⟩
          have hzn : z.length = N := by rw [← hzd, zAll_len]; simp
          rw [hv, hzd] at hsn
          rw [hv] at hvN hat ⊢
          rw [hpp] at hat hpN
          rw [hzd] at hr
          have b0 := hf.cellAt ⟨w.heap.size, 0, none⟩ (by show w.heap.size < _; omega) (by show ¬ w.heap.size = bz; omega)
          have b2 := hf.cellAt ⟨w.heap.size, 2, none⟩ (by show w.heap.size < _; omega) (by show ¬ w.heap.size = bz; omega)
          have r0 := b0.1.trans q0
          have r2 := b2.1.trans q2
          have cI := ints_cell' (fr_ints hf K1.out n2) (i := v) (by rw [HT.out.ln]; exact hvN)
          rw [hat] at cI
          have cZ := hr.cell (i := v) (by rw [hzn]; exact hvN)
          have fZ := hr.free v
          obtain ⟨zv, hzv⟩ : ∃ y, z.getD v 0 = y := ⟨_, rfl⟩
          rw [hzv] at cZ
          have hr1 := hr.set v (wrap64 (zv + 1))
          obtain ⟨z1, hz1'⟩ : ∃ y, z.set v (wrap64 (zv + 1)) = y := ⟨_, rfl⟩
          have hz1n : z1.length = N := by rw [← hz1', List.length_set]; exact hzn
          rw [hz1'] at hr1
          have o1 : ∀ q i, q ≠ bz → (W.setCell ⟨bz, v, none⟩ (.int .i64 (wrap64 (zv + 1)))).cell? ⟨q, i, none⟩ = W.cell? ⟨q, i, none⟩ := fun q i hq => World.cell?_setCell_other _ _ _ _ (by intro e; injection e with e1 e2; exact hq e1.symm)
          have r0' := (o1 w.heap.size 0 (by omega)).trans r0
          have r2' := (o1 w.heap.size 2 (by omega)).trans r2
          have cI' := (o1 bi v n2).trans cI
          have cZ1 := hr1.cell (i := v) (by rw [hz1n]; exact hvN)
          have cZ2 := hr1.cell (i := pp) (by rw [hz1n]; exact hpN)
          have fZ2 := hr1.free pp
          have hr2 := hr1.set pp (wrap64 (z1.getD pp 0 + z1.getD v 0))
          have hstep : zStep id z v = z1.set pp (wrap64 (z1.getD pp 0 + z1.getD v 0)) := by
            unfold zStep
            rw [hat, hzv, hz1', Int.toNat_natCast]
          obtain ⟨a1, ha1⟩ : ∃ y, z1.getD pp 0 = y := ⟨_, rfl⟩
          obtain ⟨a2, ha2⟩ : ∃ y, z1.getD v 0 = y := ⟨_, rfl⟩
          rw [ha1] at cZ2
          rw [ha2] at cZ1
          rw [ha1, ha2] at hr2 hstep
          have hF := (hf.set bz v (.int .i64 (wrap64 (zv + 1))) (fun _ => rfl)).set bz pp (.int .i64 (wrap64 (a1 + a2))) (fun _ => rfl)
          have hFw := ((Fr.refl (fun q => q = bz) W).set bz v (.int .i64 (wrap64 (zv + 1))) (fun _ => rfl)).set bz pp (.int .i64 (wrap64 (a1 + a2))) (fun _ => rfl)
          have hsW := hf.size
          have hfin : Hid (KeepsFrom w2.heap.size W (((W.setCell ⟨bz, v, none⟩ (.int .i64 (wrap64 (zv + 1)))).setCell ⟨bz, pp, none⟩ (.int .i64 (wrap64 (a1 + a2)))).drew) ∧ KpG w1.heap.size w1.heap.size bo W (((W.setCell ⟨bz, v, none⟩ (.int .i64 (wrap64 (zv + 1)))).setCell ⟨bz, pp, none⟩ (.int .i64 (wrap64 (a1 + a2)))).drew) ∧ Row (((W.setCell ⟨bz, v, none⟩ (.int .i64 (wrap64 (zv + 1)))).setCell ⟨bz, pp, none⟩ (.int .i64 (wrap64 (a1 + a2)))).drew) bz bz cz (zAll nd id (List.replicate N 0) (pre ++ [x])) ∧ Fr (fun q => q = bz) w2 (((W.setCell ⟨bz, v, none⟩ (.int .i64 (wrap64 (zv + 1)))).setCell ⟨bz, pp, none⟩ (.int .i64 (wrap64 (a1 + a2)))).drew)) :=
            ⟨(((KeepsOthers.setCell _ _ _).trans (KeepsOthers.setCell _ _ _)).trans (KeepsOthers.drew _)).from _, ⟨⟨hFw.block _ (by omega) (by omega), hFw.block _ (by omega) (by omega), hFw.block _ (by omega) n4⟩, hFw.size⟩, by rw [hsn.out, hstep]; exact hr2, hF.drewN 1⟩
          have hmix : Try.prog.follows .mixedOrders = true := by kernel_rfl
          clear hr hf hr1 hr2 hF hFw o1 hstep hzd hv hpp hat hmem hDlt b0 b2
          gi_wp2
          refine d_round_tail (F := Fence.wide.inRound l) (fun _ => trivial) 16 ?_ (by kernel_rfl) (by kernel_rfl) (by kernel_rfl) ?_
          · rintro ⟨_, _, h⟩; exact h
          simp only [List.take_succ_cons, List.take_zero, List.drop_succ_cons, List.drop_zero, World.drew_is_drewN]
          repeat still_step
          refine wpStill_nil ?_
          go_wp2
          exact hfin.out)
    case done =>
      rintro DD ys W hD rfl ⟨hr, hf⟩ hK
      have hzi := ZI.all HT.out (by omega)
      obtain ⟨z, hzd⟩ : ∃ z, zAll nd id (List.replicate N 0) (desc (k - 1) (k - 1)) = z := ⟨_, rfl⟩
      rw [hzd] at hzi hr
      have hzf := hzi.root HT.out
      have hpi := PI.start HT.out hzf
      have hrm : nd.getD 0 0 ∈ nd := at_mem (by rw [Hlk.out]; omega)
      have hrN := HT.out.node _ hrm
      have hzr := hzi.nat 0 k0
      have hsum := hzi.sum
      have hsb := sumTo_le (zn nd z) (0 + 1) 0 (by omega)
      have c0 := (hf.cellAt ⟨w.heap.size, 0, none⟩ (by show w.heap.size < _; omega) (by show ¬ w.heap.size = bz; omega)).1.trans q0
      have c1 := (hf.cellAt ⟨w.heap.size, 1, none⟩ (by show w.heap.size < _; omega) (by show ¬ w.heap.size = bz; omega)).1.trans q1
      have c2 := (hf.cellAt ⟨w.heap.size, 2, none⟩ (by show w.heap.size < _; omega) (by show ¬ w.heap.size = bz; omega)).1.trans q2
      have cr := ints_cell' (fr_ints hf K4.out n4) (i := 0) (by rw [ni_len, Hlk.out]; exact k0)
      rw [show (ni nd).getD 0 0 = ((nd.getD 0 0 : Nat) : Int) by unfold ni; simp [List.getD_eq_getElem?_getD, show 0 < nd.length by rw [Hlk.out]; exact k0]] at cr
      have hrp := hf.own K2.out (fun q hq e => by have e' : q = bz := e; have e2 : bp = q := (by simpa [Value.ownBlock] using hq); exact n5 (e2.trans e'))
      obtain ⟨r, hrr⟩ : ∃ r, nd.getD 0 0 = r := ⟨_, rfl⟩
      obtain ⟨zr, hzz⟩ : ∃ r, zn nd z 0 = r := ⟨_, rfl⟩
      rw [hrr, hzz] at hzr
      rw [hzz] at hsb
      rw [hrr] at cr hzf hpi hrN
      rw [hzr] at hzf hpi
      have cz1 := hr.cell (i := r) (by rw [hzi.ln]; exact hrN)
      rw [hzr] at cz1
      have fz1 := hr.free r
      have hzrb : zr ≤ 8192 := by omega
      have hra := hr.set r ((zr : Int) + 1)
      obtain ⟨WA, hWA⟩ : ∃ X, W.setCell ⟨bz, r, none⟩ (.int .i64 ((zr : Int) + 1)) = X := ⟨_, rfl⟩
      have hfa : Fr (fun q => q = bp ∨ q = bz) w2 WA := by
        rw [← hWA]
        exact Fr.set (P := fun q => q = bp ∨ q = bz) ⟨hf.os, hf.tape, hf.output, hf.size, fun q h n => hf.block q h (fun e => n (.inr e))⟩ bz r _ (fun _ => .inr rfl)
      have oa : ∀ q i, q ≠ bz → WA.cell? ⟨q, i, none⟩ = W.cell? ⟨q, i, none⟩ := fun q i hq => by rw [← hWA]; exact World.cell?_setCell_other _ _ _ _ (by intro e; injection e with e1 e2; exact hq e1.symm)
      have hrpa : Row WA bp bp cp (List.replicate N (-1)) := by rw [← hWA]; exact Row.kept hrp (grown_setCell W bz r _) (fun e => n5 (by injection e))
      rw [hWA] at hra
      have a0 := (oa w.heap.size 0 (by omega)).trans c0
      have a1 := (oa w.heap.size 1 (by omega)).trans c1
      have cp1 := hrpa.cell (i := r) (by simpa using hrN)
      have fp1 := hrpa.free r
      have hrpb := hrpa.set r 0
      obtain ⟨WB, hWB⟩ : ∃ X, WA.setCell ⟨bp, r, none⟩ (.int .i64 0) = X := ⟨_, rfl⟩
      have hfb : Fr (fun q => q = bp ∨ q = bz) w2 WB := by rw [← hWB]; exact hfa.set bp r _ (fun _ => .inl rfl)
      have ob : ∀ q i, q ≠ bp → WB.cell? ⟨q, i, none⟩ = WA.cell? ⟨q, i, none⟩ := fun q i hq => by rw [← hWB]; exact World.cell?_setCell_other _ _ _ _ (by intro e; injection e with e1 e2; exact hq e1.symm)
      rw [hWB] at hrpb
      have hrb : Row WB bz bz cz (z.set r ((zr : Int) + 1)) := by rw [← hWB]; exact hra.kept (grown_setCell WA bp r _) (fun e => n5 (by injection e with e; exact e.symm))
      have b1 := (ob w.heap.size 1 (by omega)).trans a1
      have hKb : WB.heap[DD]? = some (.deferred (some [])) := by
        rw [← hWB, ← hWA, heap_setCell_other _ _ _ _ (by show DD ≠ bp; omega), heap_setCell_other _ _ _ _ (by show DD ≠ bz; omega)]; exact hK
      have hsz0 : WB.heap.size = W.heap.size := by rw [← hWB, ← hWA]; simp
      have Hzf := Lib.hid hzf
      have Hpi := Lib.hid hpi
      have Hrb := Lib.hid hrb
      have Hrpb := Lib.hid hrpb
      have Hfb := Lib.hid hfb
      have HKb := Lib.hid hKb
      have hDD : DD < WB.heap.size := (Array.getElem?_eq_some_iff.1 hKb).1
      have hsWB := hfb.size
      clear hr hf hK hzi hzd hzf hpi hrm hsum hsb hrp hra hfa oa hrpa hrpb hfb ob hrb hKb hrr hzz
      subst hWB
      subst hWA
      gi_wp2_with (gi_at_make; refine d_make_full _ rfl _ _ 25 rfl W.heap.size 3 i0 (.int .i64 0) 1 Try.underlying25 hi hz0 hz1 _ _ _ _ N rfl rfl rfl rfl ?_ ?_ ?_ ?_)
      · rw [hz2]; omega
      · unfold maxLen; omega
      · simp
      intro w3 hown hg3
      have hzW : (((W.setCell ⟨bz, r, none⟩ (.int .i64 ((zr : Int) + 1))).setCell ⟨bp, r, none⟩ (.int .i64 0))).heap.size = W.heap.size := by simp
      generalize ((W.setCell ⟨bz, r, none⟩ (.int .i64 ((zr : Int) + 1))).setCell ⟨bp, r, none⟩ (.int .i64 0)) = WB at *

      have hrf : Row w3 W.heap.size W.heap.size N (List.replicate N 0) := by
        unfold Row
        rw [show (List.replicate N (0 : Int)).map (Value.int .i64) = (madeCells #[Value.int .i64 0] N).toList by rw [toList_madeCells_one]; simp, List.length_replicate]
        exact hown
      have lf3 := hrf.lt.2
      have hb3 : Below WB.heap.size WB w3 := (Below.refl _ _).grown hg3 (Nat.le_refl _) (fun k hk => by cases hk)
      have hsW3 := hb3.size
      have hrz3 : Row w3 bz bz cz (z.set r ((zr : Int) + 1)) := Hrb.out.below hb3 (by omega)
      have hrp3 : Row w3 bp bp cp ((List.replicate N (-1)).set r 0) := Hrpb.out.below hb3 (by omega)
      have hf3 : Fr (fun q => q = bp ∨ q = bz) w2 w3 := ⟨hb3.os.trans Hfb.out.os, hb3.tape.trans Hfb.out.tape, hb3.output.trans Hfb.out.output, Nat.le_trans Hfb.out.size hb3.size, fun q hq n => (hb3.block q (by omega)).trans (Hfb.out.block q hq n)⟩
      have hK3 : w3.heap[DD]? = some (.deferred (some [])) := (hb3.block DD (by omega)).trans HKb.out
      have cf := hrf.cell (i := r) (by simpa using hrN)
      have ff := hrf.free r
      have hrf2 := hrf.set r 1
      generalize W.heap.size = F at *
      obtain ⟨fl0, hfl0⟩ : ∃ y, (List.replicate N (0 : Int)).getD r 0 = y := ⟨_, rfl⟩
      rw [hfl0] at cf
      have hFz : F ≠ bz := by omega
      have hFp : F ≠ bp := by omega
      have hstart : ∃ pl fr, Row (w3.setCell ⟨F, r, none⟩ (.int .i64 1)) bp bp cp pl ∧ Row (w3.setCell ⟨F, r, none⟩ (.int .i64 1)) F F N fr ∧ Row (w3.setCell ⟨F, r, none⟩ (.int .i64 1)) bz bz cz (z.set r ((zr : Int) + 1)) ∧ PI N k nd D (z.set r ((zr : Int) + 1)) pl fr (0 + 1) ∧ Fr (fun q => q = bp ∨ q = bz) w2 (w3.setCell ⟨F, r, none⟩ (.int .i64 1)) ∧ (w3.setCell ⟨F, r, none⟩ (.int .i64 1)).heap[DD]? = some (.deferred (some [])) :=
        ⟨_, _, hrp3.kept (grown_setCell w3 F r _) (fun e => hFp (by injection e with e; exact e.symm)), hrf2.self', hrz3.kept (grown_setCell w3 F r _) (fun e => hFz (by injection e with e; exact e.symm)), Hpi.out, ⟨hf3.os, hf3.tape, hf3.output, by simpa using hf3.size, fun q hq n => (heap_setCell_other _ _ _ _ (by show q ≠ F; omega)).trans (hf3.block q hq n)⟩, by rw [heap_setCell_other _ _ _ _ (by show DD ≠ F; intro e; rw [e] at hK3; have := Row.not_deferred hrf hK3; exact this)]; exact hK3⟩
      have Hstart := Lib.hid hstart
      clear hown hg3 hrf hb3 hrz3 hrp3 hf3 hK3 hrf2 hstart hfl0 c0 c1 c2 cr cz1 fz1 a0 a1 cp1 fp1 b1 hsz0 Hrb Hrpb Hfb HKb Hpi
      gi_wp2
      gi_loopw [63] (fun x W' => ∃ q : Nat, x = .int .i64 (q : Int) ∧ q ≤ k - 1 ∧ Hid (∃ pl fr, Row W' bp bp cp pl ∧ Row W' F F N fr ∧ Row W' bz bz cz (z.set r ((zr : Int) + 1)) ∧ PI N k nd D (z.set r ((zr : Int) + 1)) pl fr (q + 1) ∧ Fr (fun q => q = bp ∨ q = bz) w2 W' ∧ W'.heap[DD]? = some (.deferred (some [])))) (fun x _ => k - 1 - (intOf x).toNat)
      case atStart => exact ⟨0, rfl, Nat.zero_le _, Hstart⟩
      case round =>
        obtain ⟨q, rfl, hq, hI⟩ := hrel
        by_cases hlt : q < k - 1
        · first
           | exact absurd hlt (by have hq2 : co = 1 := (by assumption); omega)
           | (obtain ⟨pl, fr, hp, hfr, hz, hPI, hf, hK⟩ := hI.out
              have hmm : nd.getD (q + 1) 0 ∈ nd := at_mem (by rw [Hlk.out]; omega)
              have hDq := HT.out.lt (q + 1) (by omega) (by omega)
              have hvN := HT.out.node _ hmm
              have hdN := HT.out.node _ (at_mem (i := D (q + 1)) (by rw [Hlk.out]; omega))
              have hat := HT.out.at_ (q + 1) (by omega) (by omega)
              have hnf := hPI.nf (D (q + 1)) hDq
              have hnz := Hzf.out.nat (q + 1) (by omega)
              have hbf := (hPI.bnd HT.out Hzf.out (by omega) (by omega) (D (q + 1)) hDq).1
              have hbs := Hzf.out.big (q + 1) (by omega)
              obtain ⟨f, hfe⟩ : ∃ f, zn nd fr (D (q + 1)) = f := ⟨_, rfl⟩
              obtain ⟨s, hse⟩ : ∃ s, zn nd (z.set r ((zr : Int) + 1)) (q + 1) = s := ⟨_, rfl⟩
              have hnx := hPI.step HT.out Hzf.out (by omega) (by omega) hfe.symm hse.symm
              rw [hfe] at hnf hbf
              rw [hse] at hnz hbs
              have cE := (hf.cellAt ⟨bo, 1 + q, none⟩ (by show bo < _; omega) (by show ¬ (bo = bp ∨ bo = bz); omega)).1.trans (hcl2.out q hlt)
              rw [Hze.out q hlt] at cE
              have cI := ints_cell' (fr_ints hf K1.out (by show ¬ (bi = bp ∨ bi = bz); omega)) (i := nd.getD (q + 1) 0) (by rw [HT.out.ln]; exact hvN)
              rw [hat] at cI
              obtain ⟨v, hv⟩ : ∃ v, nd.getD (q + 1) 0 = v := ⟨_, rfl⟩
              obtain ⟨d, hd⟩ : ∃ v, nd.getD (D (q + 1)) 0 = v := ⟨_, rfl⟩
              rw [hv] at hnz hnx cE cI hvN
              rw [hd] at hnf hnx cI hdN
              have c0 := (hf.cellAt ⟨w.heap.size, 0, none⟩ (by show w.heap.size < _; omega) (by show ¬ (w.heap.size = bp ∨ w.heap.size = bz); omega)).1.trans q0
              have c1 := (hf.cellAt ⟨w.heap.size, 1, none⟩ (by show w.heap.size < _; omega) (by show ¬ (w.heap.size = bp ∨ w.heap.size = bz); omega)).1.trans q1
              have c2 := (hf.cellAt ⟨w.heap.size, 2, none⟩ (by show w.heap.size < _; omega) (by show ¬ (w.heap.size = bp ∨ w.heap.size = bz); omega)).1.trans q2
              have cP := hp.cell (i := v) (by rw [hPI.lp]; exact hvN)
              have fP := hp.free v
              obtain ⟨pv, hpv⟩ : ∃ y, pl.getD v 0 = y := ⟨_, rfl⟩
              rw [hpv] at cP
              have cF := hfr.cell (i := d) (by rw [hPI.lf]; exact hdN)
              rw [hnf] at cF
              have o1 : ∀ b i, b ≠ bp → (wr.setCell ⟨bp, v, none⟩ (.int .i64 (f : Int))).cell? ⟨b, i, none⟩ = wr.cell? ⟨b, i, none⟩ := fun b i hb => World.cell?_setCell_other _ _ _ _ (by intro e; injection e with e1 e2; exact hb e1.symm)
              have hp1 := hp.set v (f : Int)
              have hf1 := hfr.kept (grown_setCell wr bp v (.int .i64 (f : Int))) (fun e => hFp (by injection e))
              have hz1 := hz.kept (grown_setCell wr bp v (.int .i64 (f : Int))) (fun e => n5 (by injection e with e; exact e.symm))
              have hF1 := hf.set bp v (.int .i64 (f : Int)) (fun _ => .inl rfl)
              have hDF : DD ≠ F := fun e => by rw [e] at hK; exact hfr.not_deferred hK
              have hK1 : (wr.setCell ⟨bp, v, none⟩ (.int .i64 (f : Int))).heap[DD]? = some (.deferred (some [])) := (heap_setCell_other _ _ _ _ (by show DD ≠ bp; omega)).trans hK
              have d1 := (o1 w.heap.size 1 (by omega)).trans c1
              have d2 := (o1 w.heap.size 2 (by omega)).trans c2
              have hmix : Try.prog.follows .mixedOrders = true := by kernel_rfl
              have Hnx := Lib.hid hnx
              have Hpl := Lib.hid (And.intro hPI.lp hPI.lf)
              clear hI hp hfr hz hPI hf hK hmm hDq hat hfe hse hv hd hpv o1 hnx
              gi_wp2
              refine d_region_noPanic ?_
              apply dlater0
              · intro key
                gi_region
                all_goals exact key.out
              refine NoPanic.normal ?_
              have P1 : Row (wr.setCell ⟨bp, v, none⟩ (.int .i64 (f : Int))).drew bp bp cp (pl.set v (f : Int)) := hp1
              have R1 : Row (wr.setCell ⟨bp, v, none⟩ (.int .i64 (f : Int))).drew F F N fr := hf1
              have Z1 : Row (wr.setCell ⟨bp, v, none⟩ (.int .i64 (f : Int))).drew bz bz cz (z.set r ((zr : Int) + 1)) := hz1
              have E1 : (wr.setCell ⟨bp, v, none⟩ (.int .i64 (f : Int))).drew.cell? ⟨w.heap.size, 1, none⟩ = some (.slice (some ⟨bp, 0, none⟩) N cp) := d1
              have E2 : (wr.setCell ⟨bp, v, none⟩ (.int .i64 (f : Int))).drew.cell? ⟨w.heap.size, 2, none⟩ = some (.slice (some ⟨bz, 0, none⟩) N cz) := d2
              have G1 : Fr (fun q => q = bp ∨ q = bz) w2 (wr.setCell ⟨bp, v, none⟩ (.int .i64 (f : Int))).drew := hF1.drewN 1
              have J1 : (wr.setCell ⟨bp, v, none⟩ (.int .i64 (f : Int))).drew.heap[DD]? = some (.deferred (some [])) := hK1
              generalize (wr.setCell ⟨bp, v, none⟩ (.int .i64 (f : Int))).drew = W1 at *
              clear hp1 hf1 hz1 hF1 hK1 d1 d2 cE cI c0 c1 c2 cP fP cF
              have cF1 := R1.cell (i := d) (by rw [Hpl.out.2]; exact hdN)
              rw [hnf] at cF1
              have fF1 := R1.free d
              have cZ1 := Z1.cell (i := v) (by rw [Hzf.out.ln]; exact hvN)
              rw [hnz] at cZ1
              have o2 : ∀ b i, b ≠ F → (W1.setCell ⟨F, d, none⟩ (.int .i64 ((f : Int) + (s : Int)))).cell? ⟨b, i, none⟩ = W1.cell? ⟨b, i, none⟩ := fun b i hb => World.cell?_setCell_other _ _ _ _ (by intro e; injection e with e1 e2; exact hb e1.symm)
              have P2 : Row (W1.setCell ⟨F, d, none⟩ (.int .i64 ((f : Int) + (s : Int)))).drew bp bp cp (pl.set v (f : Int)) := Row.drewN (P1.kept (grown_setCell W1 F d (.int .i64 ((f : Int) + (s : Int)))) (fun e => hFp (by injection e with e; exact e.symm))) 1
              have R2 : Row (W1.setCell ⟨F, d, none⟩ (.int .i64 ((f : Int) + (s : Int)))).drew F F N (fr.set d ((f + s : Nat) : Int)) := by
                have := R1.set d ((f : Int) + (s : Int))
                rw [show ((f + s : Nat) : Int) = (f : Int) + (s : Int) by omega]; exact this
              have Z2 : Row (W1.setCell ⟨F, d, none⟩ (.int .i64 ((f : Int) + (s : Int)))).drew bz bz cz (z.set r ((zr : Int) + 1)) := Row.drewN (Z1.kept (grown_setCell W1 F d (.int .i64 ((f : Int) + (s : Int)))) (fun e => hFz (by injection e with e; exact e.symm))) 1
              have E3 : (W1.setCell ⟨F, d, none⟩ (.int .i64 ((f : Int) + (s : Int)))).drew.cell? ⟨w.heap.size, 1, none⟩ = some (.slice (some ⟨bp, 0, none⟩) N cp) := (o2 w.heap.size 1 (by omega)).trans E1
              have G2 : Fr (fun q => q = bp ∨ q = bz) w2 (W1.setCell ⟨F, d, none⟩ (.int .i64 ((f : Int) + (s : Int)))).drew := ⟨G1.os, G1.tape, G1.output, by show _ ≤ (W1.setCell _ _).heap.size; simpa using G1.size, fun x hx n => (heap_setCell_other _ _ _ _ (by show x ≠ F; omega)).trans (G1.block x hx n)⟩
              have J2 : (W1.setCell ⟨F, d, none⟩ (.int .i64 ((f : Int) + (s : Int)))).drew.heap[DD]? = some (.deferred (some [])) := (heap_setCell_other _ _ _ _ (by show DD ≠ F; exact hDF)).trans J1
              gi_wp2
              refine d_region_noPanic ?_
              apply dlater0
              · intro key
                gi_region
                all_goals exact key.out
              refine NoPanic.normal ?_
              generalize (W1.setCell ⟨F, d, none⟩ (.int .i64 ((f : Int) + (s : Int)))).drew = W2 at *
              clear P1 R1 Z1 E1 E2 G1 J1 o2 cF1 fF1 cZ1
              have cP2 := P2.cell (i := v) (by rw [List.length_set, Hpl.out.1]; exact hvN)
              rw [getD_set_self' _ (by rw [Hpl.out.1]; exact hvN)] at cP2
              have cF2 := R2.cell (i := v) (by rw [List.length_set, Hpl.out.2]; exact hvN)
              have fF2 := R2.free v
              have hend : Hid (∃ pl fr, Row (W2.setCell ⟨F, v, none⟩ (.int .i64 ((f : Int) + 1))) bp bp cp pl ∧ Row (W2.setCell ⟨F, v, none⟩ (.int .i64 ((f : Int) + 1))) F F N fr ∧ Row (W2.setCell ⟨F, v, none⟩ (.int .i64 ((f : Int) + 1))) bz bz cz (z.set r ((zr : Int) + 1)) ∧ PI N k nd D (z.set r ((zr : Int) + 1)) pl fr (q + 1 + 1) ∧ Fr (fun q => q = bp ∨ q = bz) w2 (W2.setCell ⟨F, v, none⟩ (.int .i64 ((f : Int) + 1))) ∧ (W2.setCell ⟨F, v, none⟩ (.int .i64 ((f : Int) + 1))).heap[DD]? = some (.deferred (some []))) :=
                ⟨_, _, P2.kept (grown_setCell W2 F v _) (fun e => hFp (by injection e with e; exact e.symm)), by
                  have := R2.set v ((f : Int) + 1)
                  rw [show ((f : Int) + 1) = ((f + 1 : Nat) : Int) by omega] at this ⊢
                  exact this, Z2.kept (grown_setCell W2 F v _) (fun e => hFz (by injection e with e; exact e.symm)), Hnx.out, ⟨G2.os, G2.tape, G2.output, by simpa using G2.size, fun x hx n => (heap_setCell_other _ _ _ _ (by show x ≠ F; omega)).trans (G2.block x hx n)⟩, (heap_setCell_other _ _ _ _ (by show DD ≠ F; exact hDF)).trans J2⟩
              clear P2 R2 Z2 G2 J2 hnf hnz
              gi_wp2
              go_roundw
              case rel => exact ⟨q + 1, by go_num, by omega, hend⟩
              case measure => simp [intOf]; omega)
        · have hqk : q + 1 = k := by omega
          obtain ⟨pl, fr, hp, hfr, hz, hPI, hf, hK⟩ := hI.out
          rw [hqk] at hPI
          have hsF := hf.size
          have hput : ∀ x, x ≠ DD → (wr.putObj DD (.deferred none)).heap[x]? = wr.heap[x]? := fun x hx => by
            by_cases hl : x < wr.heap.size
            · exact (grownBy_putObj' wr DD (.deferred none)).block x hl (by simpa using hx)
            · rw [Array.getElem?_eq_none (by simpa [World.putObj] using (by omega : wr.heap.size ≤ x)), Array.getElem?_eq_none (by omega)]
          have hfin : Hid (MeasEnd w bp bz cp cz N k nd D (.returned (.tuple #[])) (wr.putObj DD (.deferred none))) := by
            have hg := grownBy_putObj' wr DD (.deferred none)
            refine ⟨rfl, pl, _, fr, hp.kept hg (fun e => by injection e; omega), hz.kept hg (fun e => by injection e; omega), Hzf.out, hPI, ?_⟩
            have hw2 := HB2.out
            exact ⟨hg.os.trans (hf.os.trans hw2.os), hg.tape.trans (hf.tape.trans hw2.tape), hg.output.trans (hf.output.trans hw2.output), Nat.le_trans hw2.size (Nat.le_trans hf.size hg.size), fun x hx n => (hput x (by omega)).trans ((hf.block x (by omega) n).trans (hw2.block x hx))⟩
          clear hI hp hfr hz hPI hf hput
          gi_wp2
          refine ⟨by simp, .inl ⟨_, _, rfl, run_takeDeferred hK, ?_⟩⟩
          exact ⟨_, results_none rfl _ _ _, hfin.out⟩
end Go.Proofs.Ytcmliokkamgcdaa
