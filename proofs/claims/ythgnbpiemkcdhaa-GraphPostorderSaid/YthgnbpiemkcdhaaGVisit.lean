/-
  Postorder's closure: the search from a node that is not seen yet.
-/
import Derived.Test.YthgnbpiemkcdhaaGVisitW
namespace Go.Proofs.Ythgnbpiemkcdhaa
open Go.RowKit Go.Shelf
set_option linter.unusedVariables false
attribute [local go_sem] Oper.semAt_some

def VEnd (w1 W : World) (L R M V G N n₁ : Nat) (u : Value) (st : List Bool × List Int) (e : Ending) (W' : World) : Prop :=
  e = .returned (.tuple #[]) ∧ ∃ u', VR w1 W' L R M V G N n₁ u' st ∧ Fr W W' L R u u'

set_option maxHeartbeats 8000000 in
set_option maxRecDepth 100000 in
theorem visit_step (N n c : Nat) (a : Option Addr) (ps : List (Int × Int)) (w1 : World) (L R M V G n₁ : Nat) (o : LO L R M V n₁) (hGL : G < L) (hw1 : w1.heap.size ≤ L) (hg : GOk (N : Int) ps) (hl : ps.length = n) (hE : Edg w1 a c ps)
    (c0 : w1.cell? ⟨G, 0, none⟩ = some (.int .i64 (N : Int))) (c1 : w1.cell? ⟨G, 1, none⟩ = some (.slice a n c)) (f B : Nat) (hB : B ≤ N)
    (IH : ∀ (v : Int) (st : List Bool × List Int) (u : Value) (W : World), VR w1 W L R M V G N n₁ u st → 0 ≤ v → v < N → st.1.getD v.toNat false = false → DOk N f (B - 1) st →
      Calls Try.prog 43 #[.int .i64 v, .pointer (some ⟨M, 0, none⟩), .pointer (some ⟨G, 0, none⟩), .pointer (some ⟨V, 0, none⟩), .pointer (some ⟨L, 0, none⟩)] W (VEnd w1 W L R M V G N n₁ u (dfsV ps f v st)))
    (v : Nat) (st : List Bool × List Int) (u : Value) (W : World) (hV : VR w1 W L R M V G N n₁ u st) (h1 : v < N) (hun : st.1.getD v false = false) (hd : DOk N (f + 1) B st) :
    Calls Try.prog 43 #[.int .i64 v, .pointer (some ⟨M, 0, none⟩), .pointer (some ⟨G, 0, none⟩), .pointer (some ⟨V, 0, none⟩), .pointer (some ⟨L, 0, none⟩)] W (VEnd w1 W L R M V G N n₁ u (dfsV ps (f + 1) (v : Int) st)) := by
  obtain ⟨i0, hi, hz0, hz1, hz2⟩ := info_parts int_info
  have hr := Nat.le_of_eq o.r; have hr' := Nat.le_of_eq o.r.symm; have hm := o.m; have hF := Nat.le_of_eq o.f; have hF' := Nat.le_of_eq o.f.symm; have hn := Nat.le_of_eq o.n; have hn' := Nat.le_of_eq o.n.symm
  have hN := hg.hi
  have hlen := hg.len
  have hmono := hg.mono
  have hlt1 : v < st.1.length := by rw [hd.len]; exact h1
  obtain ⟨hdm, hB1⟩ := hd.mark (v := (v : Int)) (by omega) (by omega) (by rw [Int.toNat_natCast]; exact hun)
  rw [Int.toNat_natCast] at hdm
  have cM := hV.rs.mbox.cell
  have cR := hV.rs.row.cell hlt1
  rw [hun] at cR
  have fR := hV.rs.row.free v
  obtain ⟨hV1, hF1⟩ := hV.mark o v
  have g0 := (hV1.below.cell (p := ⟨G, 0, none⟩) hGL).trans c0
  have g1 := (hV1.below.cell (p := ⟨G, 1, none⟩) hGL).trans c1
  have hown0 : ∀ q, u.ownBlock = some q → n₁ ≤ q ∧ q < W.heap.size := fun q e => World.ownsRow.lt hV.rs.own q e
  have hsW := hV.rs.sz
  have HV1 := Lib.hid hV1
  have HF1 := Lib.hid hF1
  have HIH := Lib.hid IH
  have HE := Lib.hid hE
  have Hg := Lib.hid hg
  have Hl := Lib.hid hl
  have Hm := Lib.hid hmono
  have Hdm := Lib.hid hdm
  have Hdd := Lib.hid (dfsV_succ ps f (v : Int) st)
  rw [Int.toNat_natCast] at Hdd
  clear IH hE hg hl hmono hdm hd hV hV1 hF1 c0 c1 hun
  refine (callsIn_wide (n := 6)).1 ?_
  refine callsIn_of_wp_marks Try.func43 rfl trivial ?_ rfl
  simp only [Try.ntmps43, List.size_toArray, List.length_cons, List.length_nil, Nat.reduceAdd, Nat.reduceSub, Array.replicate_succ, Array.replicate_zero, List.push_toArray, List.append_toArray, List.nil_append, List.cons_append]
  gi_wp2_with (refine ⟨trivial, ?_⟩; gi_at_call 33; refine (callsIn_wide.2 (successors_any (N : Int) a n c (v : Int) _)).mono ?_; rintro e w' ⟨rfl, rfl⟩)
  have hsz3 : (((W.setCell ⟨R, v, none⟩ (.bool true)).alloc (.cells #[.int .i64 (N : Int), .slice a n c] 24)).alloc (.cells #[.int .i64 (v : Int)] 3)).heap.size = W.heap.size + 2 := by simp
  have hal : Below (W.setCell ⟨R, v, none⟩ (.bool true)).heap.size (W.setCell ⟨R, v, none⟩ (.bool true)) (((W.setCell ⟨R, v, none⟩ (.bool true)).alloc (.cells #[.int .i64 (N : Int), .slice a n c] 24)).alloc (.cells #[.int .i64 (v : Int)] 3)) := ((Below.refl _ _).alloc (Nat.le_refl _) _).alloc (by simp) _
  have k1 : (((W.setCell ⟨R, v, none⟩ (.bool true)).alloc (.cells #[.int .i64 (N : Int), .slice a n c] 24)).alloc (.cells #[.int .i64 (v : Int)] 3)).cell? ⟨W.heap.size, 1, none⟩ = some (.slice a n c) := by simp [go_sem]
  have k2 : (((W.setCell ⟨R, v, none⟩ (.bool true)).alloc (.cells #[.int .i64 (N : Int), .slice a n c] 24)).alloc (.cells #[.int .i64 (v : Int)] 3)).cell? ⟨W.heap.size + 1, 0, none⟩ = some (.int .i64 (v : Int)) := by simp [go_sem]
  have hV3 := HV1.out.grow o hal
  have hF3 := HF1.out.trans (Fr.of_below (L := L) (R := R) (u := u) hal)
  have hE3 := HE.out.below (HV1.out.below.trans (hal.mono (by have := HV1.out.rs.sz; omega))) hw1
  generalize hW0 : ((W.setCell ⟨R, v, none⟩ (.bool true)).alloc (.cells #[.int .i64 (N : Int), .slice a n c] 24)).alloc (.cells #[.int .i64 (v : Int)] 3) = W0 at *
  clear hW0 hal
  clear cM cR fR g0 g1
  have hsz1 : W0.heap.size = W.heap.size + 2 := hsz3
  have hlo := Nat.le_of_eq hsz1
  have hlo' := Nat.le_of_eq hsz1.symm
  obtain ⟨be, hbe, hbe1, hbe2, hstops⟩ := succ_stopsP (fun x => 0 ≤ x ∧ x < (N : Int)) 5 (by omega) W.heap.size (W.heap.size + 1) a c (v : Int) ps Hm.out (fun i hi => (Hg.out.node i hi).2) hlen W0 hE3 (by rw [Hl.out]; exact k1) k2
  have hbl : be = W.heap.size ∨ be < L := by
    by_cases h0 : ps = []
    · exact .inl (hbe1 h0)
    · obtain ⟨b, off, rfl, hp⟩ := HE.out.pairs (List.length_pos_iff.2 h0)
      have h1 := World.block_lt_of_cell? _ _ (hp 0 (List.length_pos_iff.2 h0)).1
      have h2 := hbe2 h0
      simp only [blk] at h2 h1
      omega
  have hVd : ∀ (x : Int) (s : List Bool × List Int), 0 ≤ x → x < N → s.1.getD x.toNat false = false → DOk N f (B - 1) s → DOk N f (B - 1) (dfsV ps f x s) := fun x s h0 h1 hu h => dfsV_ok Hg.out f (B - 1) x s h0 h1 hu h
  have HVd := Lib.hid hVd
  have HV3 := Lib.hid hV3
  have HF3 := Lib.hid hF3
  clear hsz1 hsz3 hVd hV3 hF3 k1 k2 hE3
  refine rangeG (P := fun x => 0 ≤ x ∧ x < (N : Int)) 13 6 (by omega) (gf := 46) (lb := #[.pointer (some ⟨W.heap.size, 0, none⟩), .pointer (some ⟨W.heap.size + 1, 0, none⟩)]) rfl (enters_of Try.func46 (by kernel_rfl) rfl) hstops KpG.trans (KpG.put (by omega) (by omega) hbe) rfl
    (fun pre X => ∃ u', VR w1 X L R M V G N n₁ u' (foldD ps f (pre.map Subtype.val) (st.1.set v true, st.2)) ∧ Fr W X L R u u' ∧ Fr W0 X L R u u' ∧ DOk N f (B - 1) (foldD ps f (pre.map Subtype.val) (st.1.set v true, st.2))) ?hI ⟨u, HV3.out, HF3.out, Fr.refl _ _ _ _, Hdm.out⟩ ?assign ?body ?done
  case hI =>
    rintro pre A B' row ⟨u', h1, h2, h3, h4⟩ hg hr
    exact ⟨u', h1.kept o hg (fun r e => ⟨by have := (hr r e).1; omega, (hr r e).2⟩), h2.kept hg (fun r e => by have := (hr r e).1; omega), h3.kept hg (fun r e => (hr r e).1), h4⟩
  case assign =>
    intro l x W K hK
    gi_wp2
    exact hK
  case body =>
    rintro l pre x hx X ⟨u', hVx, hFx, hF0, hdx⟩ hlt
    obtain ⟨x, rfl⟩ : ∃ m : Nat, x = (m : Int) := ⟨x.toNat, by omega⟩
    have hxN : x < N := by omega
    obtain ⟨s, hs⟩ : ∃ s, foldD ps f (pre.map Subtype.val) (st.1.set v true, st.2) = s := ⟨_, rfl⟩
    rw [hs] at hVx hdx
    have hxl : x < s.1.length := by rw [hdx.len]; exact hxN
    have dM := hVx.rs.mbox.cell
    have dV := hVx.vbox.cell
    have dR := hVx.rs.row.cell hxl
    have HVx := Lib.hid hVx
    have HFx := Lib.hid hFx
    have HF0 := Lib.hid hF0
    have Hdx := Lib.hid hdx
    have Hs := Lib.hid hs
    have hq0 : ∀ q, u'.ownBlock = some q → q ≠ W.heap.size ∧ q ≠ W.heap.size + 1 ∧ q ≠ be := fun q e => by
      rcases hF0.lies with h | ⟨b, h, hb⟩
      · have := hown0 q (h.symm.trans e); omega
      · rw [h] at e; cases e; omega
    have hsX := hF0.size
    clear hVx hFx hF0 hdx hs
    cases hb : s.1.getD x false with
    | true =>
      have hst : Hid (foldD ps f ((pre ++ [(⟨(x : Int), hx⟩ : { x : Int // 0 ≤ x ∧ x < (N : Int) })]).map Subtype.val) (st.1.set v true, st.2) = s) := by
        show _ = _
        rw [List.map_append, List.map_cons, List.map_nil, foldD_snoc, Hs.out]
        unfold stepD
        rw [Int.toNat_natCast, if_pos hb]
      rw [hb] at dR
      clear hb
      gi_wp2
      exact ⟨(KeepsOthers.refl _).from _, KpG.refl _ _ _ _, u', by rw [hst.out]; exact HVx.out, HFx.out, HF0.out, by rw [hst.out]; exact Hdx.out⟩
    | false =>
      have hst : Hid (foldD ps f ((pre ++ [(⟨(x : Int), hx⟩ : { x : Int // 0 ≤ x ∧ x < (N : Int) })]).map Subtype.val) (st.1.set v true, st.2) = dfsV ps f (x : Int) s) := by
        show _ = _
        rw [List.map_append, List.map_cons, List.map_nil, foldD_snoc, Hs.out]
        unfold stepD
        rw [Int.toNat_natCast, if_neg (by rw [hb]; decide)]
      have hdn := Lib.hid (HVd.out (x : Int) s (by omega) (by omega) (by rw [Int.toNat_natCast]; exact hb) Hdx.out)
      have hcall := Lib.hid (HIH.out (x : Int) s u' X HVx.out (by omega) (by omega) (by rw [Int.toNat_natCast]; exact hb) Hdx.out)
      rw [hb] at dR
      clear hb
      gi_wp2_with (refine ⟨trivial, ?_⟩; gi_at_call 43; refine (CallsIn.inRound l (callsIn_wide.2 hcall.out)).mono ?_; rintro e X2 ⟨rfl, u2, hV2, hF2⟩)
      have hsz4 := hF2.size
      refine ⟨hF2.keeps.from _, ⟨⟨hF2.block _ (by omega) (by omega) (by omega) (fun e => (hq0 _ e.symm).1 rfl), hF2.block _ (by omega) (by omega) (by omega) (fun e => (hq0 _ e.symm).2.1 rfl), hF2.block _ (by omega) (by omega) (by omega) (fun e => (hq0 _ e.symm).2.2 rfl)⟩, hF2.size⟩, u2, by rw [hst.out]; exact hV2, HFx.out.trans hF2, HF0.out.trans hF2, by rw [hst.out]; exact hdn.out⟩
  case done =>
    rintro D ys X hD hys ⟨u', hVx, hFx, hF0, hdx⟩ hK
    rw [hys] at hVx hdx
    obtain ⟨s, hs⟩ : ∃ s, foldD ps f (succL ps (v : Int)) (st.1.set v true, st.2) = s := ⟨_, rfl⟩
    rw [hs] at hVx hdx
    have hfin : Hid (dfsV ps (f + 1) (v : Int) st = (s.1, s.2 ++ [(v : Int)])) := by
      show _ = _
      rw [Hdd.out, hs]
    have dL := hVx.rs.box.cell
    have hsl : s.2.length ≤ 8192 := by have := hdx.sum; omega
    have hsn := hVx.rs.sz
    have HVx := Lib.hid hVx
    have HFx := Lib.hid hFx
    have hMk : Marks X [D] := ⟨fun E hE => by rw [List.mem_singleton.1 hE]; exact hK, by simp⟩
    have HMk := Lib.hid hMk
    have hDW : W.heap.size ≤ D := by omega
    clear hVx hFx hF0 hdx hs hys hMk hK hstops
    gi_wp2_with (gi_at_builtin; refine wpListIn_append_own_at _ rfl _ _ 29 rfl n₁ 3 i0 (.int .i64 0) 1 8 Try.underlying29 hi hz0 hz1 hz2 rfl (by decide) _ _ _ rfl (World.ownsRow.alloc HVx.out.rs.own _) ⟨X.heap.size, 0, none⟩ 1 1 [.int .i64 (v : Int)] rfl rfl (cell_one_new _ _ _) (by simp [Value.oneCell']) (by unfold maxLen; omega) (by omega) (by simp; omega) ?_; intro v' w5 hown5 hg5 _ hat5; obtain ⟨g', cap', rfl⟩ := ownsRow_succ hown5; obtain ⟨e1, e2, hRS, hFr⟩ := RS.push HVx.out.rs (by omega) (by omega) (by omega) (by omega) (by omega) hown5 hg5 hat5)
    have hV5 := HVx.out.step o hRS hFr
    have hM5 := HMk.out.others hFr.keeps
    have hD1 : ∀ E ∈ [D], W.heap.size ≤ E := fun E hE => by rw [List.mem_singleton.1 hE]; exact hDW
    refine leaves_marks [D] _ hM5 fun W' hs => ?_
    refine ⟨.tuple #[], results_none rfl _ _ _, rfl, _, ?_, (HFx.out.trans hFr).shut hs hD1⟩
    rw [hfin.out]
    exact hV5.shut o hs hM5 fun E hE => by have := hD1 E hE; omega
theorem visit_any (N n c : Nat) (a : Option Addr) (ps : List (Int × Int)) (w1 : World) (L R M V G n₁ : Nat) (o : LO L R M V n₁) (hGL : G < L) (hw1 : w1.heap.size ≤ L) (hg : GOk (N : Int) ps) (hl : ps.length = n) (hE : Edg w1 a c ps)
    (c0 : w1.cell? ⟨G, 0, none⟩ = some (.int .i64 (N : Int))) (c1 : w1.cell? ⟨G, 1, none⟩ = some (.slice a n c)) : ∀ (f B : Nat), B ≤ N → ∀ (v : Int) (st : List Bool × List Int) (u : Value) (W : World), VR w1 W L R M V G N n₁ u st → 0 ≤ v → v < N → st.1.getD v.toNat false = false → DOk N f B st →
      Calls Try.prog 43 #[.int .i64 v, .pointer (some ⟨M, 0, none⟩), .pointer (some ⟨G, 0, none⟩), .pointer (some ⟨V, 0, none⟩), .pointer (some ⟨L, 0, none⟩)] W (VEnd w1 W L R M V G N n₁ u (dfsV ps f v st))
  | 0, B, hB, v, st, u, W, hV, h0, h1, hu, hd => by
    have hc := cntU_set (bs := st.1) (i := v.toNat) (by rw [hd.len]; omega) hu
    have := hd.cnt
    omega
  | f + 1, B, hB, v, st, u, W, hV, h0, h1, hu, hd => by
    obtain ⟨v, rfl⟩ : ∃ m : Nat, v = (m : Int) := ⟨v.toNat, by omega⟩
    exact visit_step N n c a ps w1 L R M V G n₁ o hGL hw1 hg hl hE c0 c1 f B hB (fun v st u W hV h0 h1 hu hd => visit_any N n c a ps w1 L R M V G n₁ o hGL hw1 hg hl hE c0 c1 f (B - 1) (by omega) v st u W hV h0 h1 hu hd) v st u W hV (by omega) (by rwa [Int.toNat_natCast] at hu) hd
end Go.Proofs.Ythgnbpiemkcdhaa
