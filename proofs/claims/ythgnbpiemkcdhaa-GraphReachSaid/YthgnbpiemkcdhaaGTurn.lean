/-
  Reverse: the graph with all edges reversed.
-/
import Derived.Test.YthgnbpiemkcdhaaGPred
namespace Go.Proofs.Ythgnbpiemkcdhaa
open Go.RowKit Go.Shelf
set_option linter.unusedVariables false

def revE (e : Int × Int) : Int × Int := (e.2, e.1)
def revTo (ps : List (Int × Int)) (k : Nat) : List (Int × Int) := (ps.take k).map revE
theorem revTo_succ {ps : List (Int × Int)} {k : Nat} (h : k < ps.length) : revTo ps (k + 1) = revTo ps k ++ [revE (ps.getD k (0, 0))] := by
  unfold revTo
  have e : ps.getD k (0, 0) = ps[k] := by simp [List.getD_eq_getElem?_getD, h]
  rw [List.take_succ_eq_append_getElem h, List.map_append, e]
  rfl
theorem length_revTo (ps : List (Int × Int)) (k : Nat) (h : k ≤ ps.length) : (revTo ps k).length = k := by unfold revTo; simp; omega
theorem revTo_all (ps : List (Int × Int)) : revTo ps ps.length = ps.map revE := by unfold revTo; rw [List.take_length]
theorem ltE_trans {a b c : Int × Int} (h : ltE a b = true) (k : ltE b c = true) : ltE a c = true := by
  rw [ltE_iff] at *; omega
theorem ltE_irrefl (a : Int × Int) : ltE a a = false := by rw [ltE_not]; omega
theorem ltE_total {a b : Int × Int} (h : ltE a b = false) (k : ltE b a = false) : a = b := by
  rw [ltE_not] at h k
  obtain ⟨x, y⟩ := a
  obtain ⟨u, v⟩ := b
  simp only at h k
  have h1 : x = u := by omega
  have h2 : y = v := by omega
  rw [h1, h2]
theorem GOk.asc2 {N : Int} {ps : List (Int × Int)} (h : GOk N ps) : Asc2 ps := by
  intro i j hij hj
  induction j with
  | zero => omega
  | succ j ih =>
    by_cases e : i = j
    · subst e; exact h.asc i hj
    · exact ltE_trans (ih (by omega) (by omega)) (h.asc j hj)
theorem Asc2.nodup {ps : List (Int × Int)} (h : Asc2 ps) : ps.Nodup := by
  rw [List.Nodup, List.pairwise_iff_getElem]
  intro i j hi hj hij e
  have := h i j hij hj
  simp only [List.getD_eq_getElem?_getD, List.getElem?_eq_getElem hi, List.getElem?_eq_getElem hj, Option.getD_some] at this
  rw [e, ltE_irrefl] at this
  cases this
theorem nodup_rev {ps : List (Int × Int)} (h : ps.Nodup) : (ps.map revE).Nodup := by
  rw [List.Nodup, List.pairwise_map]
  refine List.Pairwise.imp (fun {a b} hab e => hab ?_) h
  obtain ⟨x, y⟩ := a
  obtain ⟨u, v⟩ := b
  simp only [revE, Prod.mk.injEq] at e
  rw [e.1, e.2]
theorem asc_of_sorted {qs : List (Int × Int)} (hs : ∀ i j, i < j → j < qs.length → ltE (qs.getD j (0, 0)) (qs.getD i (0, 0)) = false) (hn : qs.Nodup) : Asc2 qs := by
  intro i j hij hj
  cases h : ltE (qs.getD i (0, 0)) (qs.getD j (0, 0)) with
  | true => rfl
  | false =>
    have e := ltE_total h (hs i j hij hj)
    exfalso
    have hi : i < qs.length := by omega
    simp only [List.getD_eq_getElem?_getD, List.getElem?_eq_getElem hi, List.getElem?_eq_getElem hj, Option.getD_some] at e
    exact (List.pairwise_iff_getElem.1 hn i j hi hj hij) e

/-- What Reverse returns. -/
def RevEnd (w : World) (N : Int) (ps : List (Int × Int)) (e : Ending) (w' : World) : Prop :=
  Below w.heap.size w w' ∧ ∃ qs a' c', Asc2 qs ∧ qs.Perm (ps.map revE) ∧ Edg w' a' c' qs ∧ e = .returned (.agg #[.int .i64 N, .slice a' qs.length c'])

set_option maxHeartbeats 3200000 in
theorem turn_good (N : Int) (a : Option Addr) (c : Nat) (ps : List (Int × Int)) (w : World) (hE : Edg w a c ps) (hok : gchk N ps = 0) :
    Calls Try.prog 19 #[.agg #[.int .i64 N, .slice a ps.length c]] w (RevEnd w N ps) := by
  obtain ⟨e0, he1, he2, he3, he4⟩ := info_parts pair_info
  have hg := gchk_ok hok
  have hlen := hg.len
  have hnd := Lib.hid (nodup_rev hg.asc2.nodup)
  obtain ⟨n, hl⟩ : ∃ n, ps.length = n := ⟨_, rfl⟩
  have hb0 := ((Below.refl w.heap.size w).alloc (Nat.le_refl _) (Obj.cells #[Value.int .i64 N, Value.slice a n c] 24)).alloc (by simp) (Obj.cells #[Value.int .i64 0, Value.slice none 0 0] 24)
  have hck : Calls Try.prog 11 #[.agg #[.int .i64 N, .slice a n c]] ((w.alloc (Obj.cells #[Value.int .i64 N, Value.slice a n c] 24)).alloc (Obj.cells #[Value.int .i64 0, Value.slice none 0 0] 24)) fun e w' => e = .returned (.int .i64 0) ∧ Below (w.heap.size + 1 + 1) ((w.alloc (Obj.cells #[Value.int .i64 N, Value.slice a n c] 24)).alloc (Obj.cells #[Value.int .i64 0, Value.slice none 0 0] 24)) w' := by
    have := check_any N a c ps ((w.alloc (Obj.cells #[Value.int .i64 N, Value.slice a n c] 24)).alloc (Obj.cells #[Value.int .i64 0, Value.slice none 0 0] 24)) (by unfold maxLen; omega) (hE.pairs.below hb0 (Nat.le_refl _))
    rw [hok, hl, World.size_alloc, World.size_alloc] at this
    exact this
  have hq0 := QC.new (w.alloc (Obj.cells #[Value.int .i64 N, Value.slice a n c] 24)) (.int .i64 0) (.slice none 0 0) 24
  rw [World.size_alloc] at hq0
  have Hq0 := Lib.hid hq0
  have Hb0 := Lib.hid hb0
  have Hck := Lib.hid hck
  have HE := Lib.hid hE
  have Hl := Lib.hid hl
  have Hfin : Hid (revTo ps n = ps.map revE) := by show _ = _; rw [← hl]; exact revTo_all ps
  rw [hl] at hlen ⊢
  clear hck hb0 hE hl hok hg hq0
  go_enter Try.func19, Try.ntmps19
  go_wp2_with fail
  refine Hck.out.mono ?_
  rintro e w1 ⟨rfl, hb1⟩
  have g0 := (hb1.cell (p := ⟨w.heap.size, 0, none⟩) (by simp; omega)).trans (show _ = some (Value.int .i64 N) by simp [go_sem])
  have g1 := (hb1.cell (p := ⟨w.heap.size, 1, none⟩) (by simp; omega)).trans (show _ = some (Value.slice a n c) by simp [go_sem])
  have hz1 : w.heap.size + 2 ≤ w1.heap.size := by have := hb1.size; simp at this; omega
  have Hq1 := Lib.hid (Hq0.out.below hb1 (by omega))
  have Hb1 := Lib.hid (Hb0.out.trans (hb1.mono (by omega)))
  clear hb1
  go_wp2_with (at_make; refine wpList_make_own _ rfl _ _ 22 rfl w1.heap.size 42 e0 (.agg #[.int .i64 0, .int .i64 0]) 2 Try.underlying22 he1 he2 he3 _ _ _ n rfl rfl rfl ?_ ?_ ?_ ?_)
  · rw [he4]; omega
  · unfold maxLen; omega
  · exact Nat.le_refl _
  intro w2 hown hgr
  have Hown2 := Lib.hid (show OwnP w2 w1.heap.size (.slice (some ⟨w1.heap.size, 0, none⟩) 0 n) [] from hown)
  have hb2 : Below w1.heap.size w1 w2 := (Below.refl _ _).grown hgr (Nat.le_refl _) (fun k hk => by cases hk)
  have h1 := (hb2.cell (p := ⟨w.heap.size, 1, none⟩) (by show w.heap.size < w1.heap.size; omega)).trans g1
  have Hb2 := Lib.hid hb2
  clear hown hgr hb2
  go_wp2
  go_loopw [3, 17] (fun u i wr => ∃ (k g cap : Nat), k ≤ n ∧ i = .int .i64 k ∧ u = .slice (some ⟨g, 0, none⟩) k cap ∧ OwnP wr w1.heap.size u (revTo ps k) ∧ Below w1.heap.size w1 wr) (fun _ i _ => n - (intOf i).toNat)
  case atStart => exact ⟨0, _, _, Nat.zero_le _, rfl, rfl, Hown2.out, Hb2.out⟩
  case round =>
    obtain ⟨k, g, cap, hk, rfl, rfl, hown, hb⟩ := hrel
    have Hown := Lib.hid hown
    have Hb := Lib.hid hb
    have hsz := hb.size
    by_cases hlt : k < n
    · obtain ⟨b, off, rfl, hcell⟩ := (HE.out.pairs.below (Hb1.out.trans (Hb.out.mono (by omega))) (Nat.le_refl _)) (by rw [Hl.out]; omega)
      obtain ⟨hcx, hcy⟩ := hcell k (by rw [Hl.out]; exact hlt)
      have hps := revTo_succ (show k < ps.length by rw [Hl.out]; exact hlt)
      have hpl := length_revTo ps k (by rw [Hl.out]; exact hk)
      obtain ⟨⟨x, y⟩, he⟩ : ∃ e, ps.getD k (0, 0) = e := ⟨_, rfl⟩
      rw [he] at hcx hcy hps
      have Hps := Lib.hid hps
      have Hpl := Lib.hid hpl
      clear he hcell hown hb hps hpl
      go_wp2_with (at_builtin; refine wpList_append_pair rfl _ _ rfl w1.heap.size _ _ rfl (OwnP.alloc (OwnP.alloc Hown.out _) _) _ (y, x) rfl (by simp [go_sem]) (by simp [go_sem]) (by rw [Hpl.out]; omega) (by simp; omega) ?_; intro v' w5 hown5 hg5; have Hown5 := Lib.hid hown5; have Hb5 := Lib.hid (((Hb.out.alloc hsz _).alloc (by simp; omega) _).grown hg5 (by simp; omega) (fun r hr => (World.ownsRow.lt Hown.out r hr).1)); clear hown5 hg5)
      obtain ⟨g', cap', hv'⟩ : ∃ g cap, v' = .slice (some ⟨g, 0, none⟩) (k + 1) cap := by
        have := Hown5.out
        unfold OwnP at this
        rw [List.length_append, Hpl.out] at this
        exact ownsRow_succ this
      subst hv'
      go_roundw
      case rel => exact ⟨k + 1, g', cap', by omega, by go_num, rfl, by rw [Hps.out]; exact Hown5.out, Hb5.out⟩
      case measure => simp [intOf]; omega
    · obtain rfl : k = n := by omega
      have hpl : (revTo ps k).length = k := length_revTo ps k (by rw [Hl.out]; exact Nat.le_refl _)
      obtain ⟨hc1, hc2⟩ : k ≤ cap ∧ cap ≤ maxLen := by
        rcases hown.2 with ⟨h0, _⟩ | ⟨g', cap', cur, hv, _, _, h3, h4, _⟩
        · cases h0
        · rw [hpl] at hv h3; cases hv; exact ⟨h3, h4⟩
      have hgl := World.ownsRow.lt hown g rfl
      have hrp : RP wr g (revTo ps k) := OwnP.rp (by rw [hpl]; exact hown)
      have hsort := sort_at g cap k (revTo ps k) hpl wr hrp (by omega)
      rw [Hfin.out] at hsort
      have Hsort := Lib.hid hsort
      clear hown hb hpl hrp hsort
      go_wp2_with fail
      refine Hsort.out.mono ?_
      rintro e w2' ⟨rfl, qs, hrp2, hperm, hso, hg2⟩
      have hb4 : Below w1.heap.size w1 w2' := Hb.out.grown hg2 hsz (fun j hj => by cases hj; exact hgl.1)
      have hql : qs.length = k := by rw [hperm.length_eq, List.length_map]; exact Hl.out
      have k0 := (hb4.cell (p := ⟨w.heap.size, 0, none⟩) (by show w.heap.size < w1.heap.size; omega)).trans g0
      have hqc := Hq1.out.below hb4 (by omega)
      have d0 := hqc.c0
      have d1 := hqc.c1
      have d2 := hqc.f0
      have d3 := hqc.f1
      have hqf := hqc.set (.int .i64 N) (.slice (some ⟨g, 0, none⟩) k cap)
      have i0 := hqf.c0
      have i1 := hqf.c1
      have hbf := Lib.hid (below_set2 (D := w.heap.size) (B := w.heap.size + 1) (Hb1.out.trans (hb4.mono (by omega))) (by omega) (.int .i64 N) (.slice (some ⟨g, 0, none⟩) k cap))
      have hrpf := Lib.hid (hrp2.kept (grown_trans (grown_setCell w2' (w.heap.size + 1) 0 (.int .i64 N)) (grown_setCell _ (w.heap.size + 1) 1 (.slice (some ⟨g, 0, none⟩) k cap))) (by simp; omega))
      have Hasc := Lib.hid (asc_of_sorted (qs := qs) (by rw [hql]; exact hso) (hperm.nodup_iff.2 hnd.out))
      have Hperm := Lib.hid hperm
      have Hql := Lib.hid hql
      clear hrp2 hperm hso hg2 hb4 hqc hqf hql
      go_wp2
      refine bodyPost_ret (v := .agg #[.int .i64 N, .slice (some ⟨g, 0, none⟩) k cap]) (by simp [results, Try.results19, go_sem, i0, i1]) rfl ?_
      exact ⟨hbf.out, qs, some ⟨g, 0, none⟩, cap, Hasc.out, Hperm.out, ⟨hrpf.out.pairs, by rw [Hql.out]; exact hc1, hc2, fun h => by cases h⟩, by rw [Hql.out]⟩
end Go.Proofs.Ythgnbpiemkcdhaa
