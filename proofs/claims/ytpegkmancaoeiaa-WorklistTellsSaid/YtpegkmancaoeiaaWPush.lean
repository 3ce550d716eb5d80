/-
  Push: it returns what the plain mathematics says, in new memory.
-/
import Derived.Test.YtpegkmancaoeiaaWInsert
import Derived.Deep.RegionHeld3
import Derived.Deep.DeepCutAuto
import Derived.Deep.RegionWith
import Derived.Deep.AppendLies
namespace Go.Proofs.Ytpegkmancaoeiaa
open Go.RowKit Go.WideShapes
set_option linter.unusedVariables false

/-- The contract's end: the code, and the rank and the items in new memory. -/
def PushEnd (w : World) (rs zs : List Int) (x : Int) (e : Ending) (w' : World) : Prop :=
  ∃ v1 v2, e = .returned (.tuple #[.agg #[v1, v2], .int .i64 (pushE rs zs x)]) ∧ Own w' w.heap.size v1 (pushR rs zs x) ∧ Own w' w.heap.size v2 (pushZ rs zs x) ∧ Below w.heap.size w w'
theorem PushEnd.zero {w w' : World} {rs zs : List Int} {x c : Int} (h0 : ¬ c = 0) (he : pushE rs zs x = c) (hb : Below w.heap.size w w') : PushEnd w rs zs x (.returned (.tuple #[.agg #[.slice none 0 0, .slice none 0 0], .int .i64 c])) w' := by
  subst he
  exact ⟨_, _, rfl, by rw [pushR_no h0]; exact Own.nil _ _, by rw [pushZ_no h0]; exact Own.nil _ _, hb⟩

theorem check_at (ra : Option Addr) (rc : Nat) (rs : List Int) (za : Option Addr) (zc : Nat) (zs : List Int) (r : Int) (hq : qchk rs zs = r) (w : World) (hn : rs.length ≤ maxLen) (hm : zs.length ≤ maxLen) (hr : Ints w ra rs) (hz : Ints w za zs) :
    Calls Try.prog 9 #[.agg #[.slice ra rs.length rc, .slice za zs.length zc]] w fun e w' => e = .returned (.int .i64 r) ∧ Below w.heap.size w w' := by
  subst hq
  exact check_any ra rc rs za zc zs w hn hm hr hz
theorem isItem_at (a : Option Addr) (c : Nat) (rs : List Int) (x : Int) (r : Bool) (hi : isI rs x = r) (w : World) (hn : rs.length ≤ 8192) :
    Calls Try.prog 23 #[.slice a rs.length c, .int .i64 x] w fun e w' => e = .returned (.bool r) ∧ w = w' := by
  subst hi
  exact isItem_any a c rs x w hn
theorem contains_at (a : Option Addr) (c : Nat) (zs : List Int) (x : Int) (r : Bool) (hr : hasB zs x = r) (w : World) (hn : zs.length ≤ maxLen) (hz : Ints w a zs) :
    Calls Try.prog 29 #[.slice a zs.length c, .int .i64 x] w fun e w' => e = .returned (.bool r) ∧ w = w' := by
  subst hr
  exact contains_any a zs.length c zs rfl x w hn hz

theorem bcell {W w1 : World} (hb : Below W.heap.size W w1) : (∀ b o, b < W.heap.size → w1.cell? ⟨b, o, none⟩ = W.cell? ⟨b, o, none⟩) ∧ (∀ b o, b < W.heap.size → w1.frozen? ⟨b, o, none⟩ = W.frozen? ⟨b, o, none⟩) :=
  ⟨fun b o h => hb.cell (p := ⟨b, o, none⟩) h, fun b o h => hb.frozen (p := ⟨b, o, none⟩) h⟩

set_option maxHeartbeats 1000000 in
theorem push_bad (ra : Option Addr) (rc : Nat) (rs : List Int) (za : Option Addr) (zc : Nat) (zs : List Int) (x : Int) (w : World) (hn : rs.length ≤ maxLen) (hm : zs.length ≤ maxLen) (hr : Ints w ra rs) (hz : Ints w za zs) (hq : ¬ qchk rs zs = 0) :
    Calls Try.prog 11 #[.agg #[.slice ra rs.length rc, .slice za zs.length zc], .int .i64 x] w (PushEnd w rs zs x) := by
  have He := Lib.hid (pushE_bad (x := x) hq)
  obtain ⟨c, hc⟩ : ∃ c, qchk rs zs = c := ⟨_, rfl⟩
  rw [hc] at hq
  have Hc := Lib.hid hc
  have hne : (c != 0) = true := by rw [bne_iff_ne]; exact hq
  have Hr := Lib.hid hr
  have Hz := Lib.hid hz
  clear hr hz hc
  go_enter Try.func11, Try.ntmps11
  go_wp2_with fail
  refine (check_at ra rc rs za zc zs c Hc.out _ hn hm (Hr.out.below (((Below.refl _ w).alloc (Nat.le_refl _) _).alloc (by simp) _) (Nat.le_refl _)) (Hz.out.below (((Below.refl _ w).alloc (Nat.le_refl _) _).alloc (by simp) _) (Nat.le_refl _))).mono ?_
  rintro e w1 ⟨rfl, hb⟩
  obtain ⟨hcell, hfrz⟩ := bcell hb
  have Hb := Lib.hid hb
  clear hb
  go_wp2
  refine bodyPost_ret (v := .tuple #[.agg #[.slice none 0 0, .slice none 0 0], .int .i64 c]) (by simp [results, Try.results11, go_sem, hcell]) rfl ?_
  exact PushEnd.zero hq (He.out.trans Hc.out) ((((((Below.refl _ _).alloc (Nat.le_refl _) _).alloc (by simp) _).trans (Hb.out.mono (by simp; omega))).setCell (by simp) _).setCell (by simp) _)

set_option maxHeartbeats 1000000 in
theorem push_rng (ra : Option Addr) (rc : Nat) (rs : List Int) (za : Option Addr) (zc : Nat) (zs : List Int) (x : Int) (w : World) (hn : rs.length ≤ 8192) (hm : zs.length ≤ maxLen) (hr : Ints w ra rs) (hz : Ints w za zs) (hq : qchk rs zs = 0) (hi : isI rs x = false) :
    Calls Try.prog 11 #[.agg #[.slice ra rs.length rc, .slice za zs.length zc], .int .i64 x] w (PushEnd w rs zs x) := by
  have He := Lib.hid (pushE_rng hq hi)
  have Hq := Lib.hid hq
  have Hi := Lib.hid hi
  have Hr := Lib.hid hr
  have Hz := Lib.hid hz
  clear hr hz hq hi
  go_enter Try.func11, Try.ntmps11
  go_wp2_with fail
  refine (check_at ra rc rs za zc zs 0 Hq.out _ (by unfold maxLen; omega) hm (Hr.out.below (((Below.refl _ w).alloc (Nat.le_refl _) _).alloc (by simp) _) (Nat.le_refl _)) (Hz.out.below (((Below.refl _ w).alloc (Nat.le_refl _) _).alloc (by simp) _) (Nat.le_refl _))).mono ?_
  rintro e w1 ⟨rfl, hb⟩
  obtain ⟨hcell, hfrz⟩ := bcell hb
  have Hb := Lib.hid hb
  clear hb
  go_wp2_with fail
  refine (isItem_at ra rc rs x false Hi.out _ hn).mono ?_
  rintro e w2 ⟨rfl, rfl⟩
  go_wp2
  refine bodyPost_ret (v := .tuple #[.agg #[.slice none 0 0, .slice none 0 0], .int .i64 4]) (by simp [results, Try.results11, go_sem, hcell]) rfl ?_
  exact PushEnd.zero (by omega) He.out ((((((Below.refl _ _).alloc (Nat.le_refl _) _).alloc (by simp) _).trans (Hb.out.mono (by simp; omega))).setCell (by simp) _).setCell (by simp) _)

theorem copied_ph {w w1 wp : World} {a : Option Addr} {c : Nat} {zs : List Int} (h01 : Below w.heap.size w w1) (hS : Below (w.heap.size + 2) w1 wp) (hn : zs.length ≤ 10000) (hz : Ints w a zs) (hnil : a = none → c = 0) :
    Calls Try.prog 28 #[.slice a zs.length c] wp fun e w' => ∃ v, e = .returned v ∧ Own w' wp.heap.size v zs ∧ Below wp.heap.size wp w' :=
  copied_any a zs.length c zs rfl wp hn (hz.below (h01.trans (hS.mono (by omega))) (Nat.le_refl _)) hnil

/-- Behind the two copies: block g holds them. -/
structure RQ (w w1 : World) (rs zs : List Int) (g : Nat) (v1 v2 : Value) (wx : World) : Prop where
  lo : w.heap.size + 2 ≤ g
  hi : g < wx.heap.size
  c0 : wx.cell? ⟨g, 0, none⟩ = some v1
  c1 : wx.cell? ⟨g, 1, none⟩ = some v2
  f0 : wx.frozen? ⟨g, 0, none⟩ = false
  f1 : wx.frozen? ⟨g, 1, none⟩ = false
  o1 : Own wx (w.heap.size + 2) v1 rs
  o2 : Own wx (w.heap.size + 2) v2 zs
  ne1 : v1.ownBlock ≠ some g
  ne2 : v2.ownBlock ≠ some g
  ne12 : v1.ownBlock = none ∨ v1.ownBlock ≠ v2.ownBlock
  bel : Below (w.heap.size + 2) w1 wx
def RQs (w w1 : World) (rs zs : List Int) (s : Value) (wx : World) : Prop := ∃ g v1 v2, s = .pointer (some ⟨g, 0, none⟩) ∧ RQ w w1 rs zs g v1 v2 wx
theorem Own.ne_of_ge {w : World} {base g : Nat} {v : Value} {zs : List Int} (h : Own w base v zs) (hg : g < base) : v.ownBlock ≠ some g := fun e => by
  have := (World.ownsRow.lt h g e).1; omega
theorem Own.ne_of_lt {w : World} {base g : Nat} {v : Value} {zs : List Int} (h : Own w base v zs) (hg : w.heap.size ≤ g) : v.ownBlock ≠ some g := fun e => by
  have := (World.ownsRow.lt h g e).2; omega

theorem apart {wA wB : World} {B B2 : Nat} {v1 v2 : Value} {rs zs : List Int} (h1 : Own wA B v1 rs) (h2 : Own wB B2 v2 zs) (h : wA.heap.size ≤ B2) : v1.ownBlock = none ∨ v1.ownBlock ≠ v2.ownBlock := by
  cases e : v1.ownBlock with
  | none => exact .inl rfl
  | some b =>
    refine .inr fun e2 => ?_
    have a1 := (World.ownsRow.lt h1 b e).2
    have a2 := (World.ownsRow.lt h2 b e2.symm).1
    omega
theorem rq_new {w w1 wB : World} {rs zs : List Int} {v1 v2 : Value} {t : TypeId} (bel : Below (w.heap.size + 2) w1 wB) (hsz : w.heap.size + 2 ≤ w1.heap.size) (o1 : Own wB (w.heap.size + 2) v1 rs) (o2 : Own wB (w.heap.size + 2) v2 zs) (ne12 : v1.ownBlock = none ∨ v1.ownBlock ≠ v2.ownBlock) :
    RQs w w1 rs zs (.pointer (some ⟨wB.heap.size, 0, none⟩)) (wB.alloc (.cells #[v1, v2] t)) := by
  have hs := bel.size
  exact ⟨_, v1, v2, rfl, by omega, by simp, by simp, by simp, by simp, by simp, o1.alloc _, o2.alloc _, o1.ne_of_lt (Nat.le_refl _), o2.ne_of_lt (Nat.le_refl _), ne12, bel.alloc (by omega) _⟩
theorem rq_set {w w1 wB : World} {rs zs : List Int} {v1 v2 : Value} {g : Nat} (bel : Below (w.heap.size + 2) w1 wB) (lo : w.heap.size + 2 ≤ g) (hi : g < wB.heap.size)
    (c0 : (wB.cell? ⟨g, 0, none⟩).isSome = true) (c1 : (wB.cell? ⟨g, 1, none⟩).isSome = true) (f0 : wB.frozen? ⟨g, 0, none⟩ = false) (f1 : wB.frozen? ⟨g, 1, none⟩ = false)
    (o1 : Own wB (w.heap.size + 2) v1 rs) (o2 : Own wB (w.heap.size + 2) v2 zs) (ne1 : v1.ownBlock ≠ some g) (ne2 : v2.ownBlock ≠ some g) (ne12 : v1.ownBlock = none ∨ v1.ownBlock ≠ v2.ownBlock) :
    RQs w w1 rs zs (.pointer (some ⟨g, 0, none⟩)) ((wB.setCell ⟨g, 0, none⟩ v1).setCell ⟨g, 1, none⟩ v2) := by
  have hg := grown_trans (grown_setCell wB g 0 v1) (grown_setCell (wB.setCell ⟨g, 0, none⟩ v1) g 1 v2)
  refine ⟨g, v1, v2, rfl, lo, Nat.lt_of_lt_of_le hi hg.size, ?_, ?_, ?_, ?_, World.ownsRow.kept o1 hg (.inr ne1), World.ownsRow.kept o2 hg (.inr ne2), ne1, ne2, ne12, (bel.setCell (p := ⟨g, 0, none⟩) lo _).setCell (p := ⟨g, 1, none⟩) lo _⟩
  · rw [World.cell?_setCell_other _ _ _ _ (by simp)]
    exact World.cell?_setCell_same' _ _ _ c0
  · exact World.cell?_setCell_same' _ _ _ (by rw [World.cell?_setCell_other _ _ _ _ (by simp)]; exact c1)
  · rw [World.frozen?_setCell, World.frozen?_setCell]; exact f0
  · rw [World.frozen?_setCell, World.frozen?_setCell]; exact f1

section
variable {n : Nat} {w1 wp w' : World} {u0 u1 : Value}
theorem keepS (hS : wp.cell? ⟨n, 0, none⟩ = some u0 ∧ wp.cell? ⟨n, 1, none⟩ = some u1 ∧ Below (n + 2) w1 wp) (hsz : n + 2 ≤ w1.heap.size) (hb : Below wp.heap.size wp w') :
    w'.cell? ⟨n, 0, none⟩ = some u0 ∧ w'.cell? ⟨n, 1, none⟩ = some u1 ∧ Below (n + 2) w1 w' := by
  have hs : n + 2 ≤ wp.heap.size := Nat.le_trans hsz hS.2.2.size
  exact ⟨(hb.cell (p := ⟨n, 0, none⟩) (by show n < _; omega)).trans hS.1, (hb.cell (p := ⟨n, 1, none⟩) (by show n < _; omega)).trans hS.2.1, hS.2.2.trans (hb.mono hs)⟩
theorem keepA (hS : wp.cell? ⟨n, 0, none⟩ = some u0 ∧ wp.cell? ⟨n, 1, none⟩ = some u1 ∧ Below (n + 2) w1 wp) (hsz : n + 2 ≤ w1.heap.size) (o : Obj) :
    (wp.alloc o).cell? ⟨n, 0, none⟩ = some u0 ∧ (wp.alloc o).cell? ⟨n, 1, none⟩ = some u1 ∧ Below (n + 2) w1 (wp.alloc o) :=
  keepS hS hsz ((Below.refl _ wp).alloc (Nat.le_refl _) o)
theorem keepC {g k : Nat} {v : Value} (hS : wp.cell? ⟨n, 0, none⟩ = some u0 ∧ wp.cell? ⟨n, 1, none⟩ = some u1 ∧ Below (n + 2) w1 wp) (hg : n + 2 ≤ g) :
    (wp.setCell ⟨g, k, none⟩ v).cell? ⟨n, 0, none⟩ = some u0 ∧ (wp.setCell ⟨g, k, none⟩ v).cell? ⟨n, 1, none⟩ = some u1 ∧ Below (n + 2) w1 (wp.setCell ⟨g, k, none⟩ v) :=
  ⟨(World.cell?_setCell_other _ _ _ _ (by simp; try omega)).trans hS.1, (World.cell?_setCell_other _ _ _ _ (by simp; try omega)).trans hS.2.1, hS.2.2.setCell (p := ⟨g, k, none⟩) hg _⟩
end

theorem Ints.alloc {w : World} {a : Option Addr} {zs : List Int} (h : Ints w a zs) (o : Obj) : Ints (w.alloc o) a zs := h.below ((Below.refl _ w).alloc (Nat.le_refl _) o) (Nat.le_refl _)
theorem place_at (ra : Option Addr) (rc : Nat) (rs : List Int) (za : Option Addr) (zc : Nat) (zs : List Int) (x : Int) (p : Nat) (hp : pl rs zs x = p) (w : World) (hv : QV rs zs) (hi : isI rs x = true) (hx : ¬ x ∈ zs) (hr : Ints w ra rs) (hz : Ints w za zs) :
    Calls Try.prog 31 #[.agg #[.slice ra rs.length rc, .slice za zs.length zc], .int .i64 x] w fun e w' => e = .returned (.int .i64 p) ∧ Below w.heap.size w w' := by
  subst hp
  exact place_any ra rc rs za zc zs x w hv hi hx hr hz
section
variable {wc wP : World} {B p : Nat} {v : Value} {zs : List Int} {x : Int}
theorem ins1 (hown : Own wc B v zs) (hbP : Below wc.drew.heap.size wc.drew wP) (hp : p ≤ zs.length) (hl : zs.length ≤ 8192) (hB : B ≤ wc.heap.size) :
    Calls Try.prog 30 #[v, .int .i64 p, .slice (some ⟨wP.heap.size, 0, none⟩) 1 1] (wP.alloc (.cells #[.int .i64 x] 3)) fun e w' => ∃ v', e = .returned v' ∧ Own w' B v' (insAt zs p x) ∧ wc.grownBy w' v.ownBlock ∧ ∀ b, v'.ownBlock = some b → v.ownBlock = some b ∨ wc.heap.size ≤ b := by
  have hs : wc.heap.size ≤ wP.heap.size := hbP.size
  have ho : Own wP B v zs := Own.below (w := wc.drew) hown hbP (Nat.le_refl _)
  refine (insert_any B v zs p x wP.heap.size (wP.alloc (.cells #[.int .i64 x] 3)) (ho.alloc _) hp hl (alloc_obj _ _) (ho.ne_of_lt (Nat.le_refl _)) (by simp; omega)).mono ?_
  rintro e w' ⟨v', rfl, h1, h2, h3⟩
  refine ⟨v', rfl, h1, ?_, fun b hb => (h3 b hb).imp id (fun h => Nat.le_trans hs (Nat.le_trans (by simp) h))⟩
  refine ⟨h2.os.trans hbP.os, h2.tape.trans hbP.tape, h2.output.trans hbP.output, Nat.le_trans hs (Nat.le_trans (by simp) h2.size), fun k hk hne => ?_⟩
  rw [h2.block k (by simp; omega) hne]
  have : (wP.alloc (.cells #[.int .i64 x] 3)).heap[k]? = wP.heap[k]? := ((Below.refl _ wP).alloc (Nat.le_refl _) _).block k (by omega)
  rw [this]
  exact hbP.block k hk
theorem ins2 (hown : Own wc B v zs) (hbP : Below (wc.alloc (.cells #[.int .i64 x] 3)).drew.heap.size (wc.alloc (.cells #[.int .i64 x] 3)).drew wP) (hp : p ≤ zs.length) (hl : zs.length ≤ 8192) (hB : B ≤ wc.heap.size) :
    Calls Try.prog 30 #[v, .int .i64 p, .slice (some ⟨wc.heap.size, 0, none⟩) 1 1] wP fun e w' => ∃ v', e = .returned v' ∧ Own w' B v' (insAt zs p x) ∧ wc.grownBy w' v.ownBlock ∧ ∀ b, v'.ownBlock = some b → v.ownBlock = some b ∨ wc.heap.size ≤ b := by
  have hs : wc.heap.size + 1 ≤ wP.heap.size := by have := hbP.size; simp at this; omega
  have ho : Own wP B v zs := Own.below (w := (wc.alloc (.cells #[.int .i64 x] 3)).drew) (hown.alloc _) hbP (Nat.le_refl _)
  have hv : wP.heap[wc.heap.size]? = some (.cells #[.int .i64 x] 3 (0, 0)) := (hbP.block _ (by simp)).trans (alloc_obj wc _)
  refine (insert_any B v zs p x wc.heap.size wP ho hp hl hv (hown.ne_of_lt (Nat.le_refl _)) (by omega)).mono ?_
  rintro e w' ⟨v', rfl, h1, h2, h3⟩
  refine ⟨v', rfl, h1, ?_, fun b hb => (h3 b hb).imp id (fun h => by omega)⟩
  refine ⟨h2.os.trans hbP.os, h2.tape.trans hbP.tape, h2.output.trans hbP.output, Nat.le_trans (by omega) h2.size, fun k hk hne => ?_⟩
  rw [h2.block k (by omega) hne, hbP.block k (by simp; omega)]
  exact ((Below.refl _ wc).alloc (Nat.le_refl _) _).block k (by omega)
end
theorem ne3 {n g : Nat} {v v' : Value} (h : ∀ b, v'.ownBlock = some b → v.ownBlock = some b ∨ n ≤ b) (hne : v.ownBlock ≠ some g) (hg : g < n) : v'.ownBlock ≠ some g := fun e => by
  rcases h g e with h | h
  · exact hne h
  · omega
theorem push_fin2 {w wc w3 : World} {rs zs : List Int} {x : Int} {v1 v2 v3 : Value} {rr zr : List Int} {g : Nat} (h0 : pushE rs zs x = 0) (o1 : Own wc (w.heap.size + 2) v1 rr) (o2 : Own wc (w.heap.size + 2) v2 zs) (ne12 : v1.ownBlock = none ∨ v1.ownBlock ≠ v2.ownBlock)
    (hne1 : v1.ownBlock ≠ some g) (hg : g < wc.heap.size) (hlo : w.heap.size + 2 ≤ g) (hg3 : wc.grownBy w3 v2.ownBlock) (hne2 : v2.ownBlock ≠ some g) (hne3 : v3.ownBlock ≠ some g) (o3 : Own w3 (w.heap.size + 2) v3 zr) (hb : Below w.heap.size w wc)
    (hr : pushR rs zs x = rr) (hz : pushZ rs zs x = zr) :
    PushEnd w rs zs x (.returned (.tuple #[.agg #[v1, v3], .int .i64 0])) (((w3.setCell ⟨g, 1, none⟩ v3).setCell ⟨w.heap.size + 1, 0, none⟩ v1).setCell ⟨w.heap.size + 1, 1, none⟩ v3) := by
  have hgr := grown_trans (grown_setCell (w3.setCell ⟨g, 1, none⟩ v3) (w.heap.size + 1) 0 v1) (grown_setCell ((w3.setCell ⟨g, 1, none⟩ v3).setCell ⟨w.heap.size + 1, 0, none⟩ v1) (w.heap.size + 1) 1 v3)
  have hg1 := grown_setCell w3 g 1 v3
  have o1' : Own w3 (w.heap.size + 2) v1 rr := World.ownsRow.kept o1 hg3 ne12
  have a1 : Own (w3.setCell ⟨g, 1, none⟩ v3) (w.heap.size + 2) v1 rr := World.ownsRow.kept o1' hg1 (.inr hne1)
  have a3 : Own (w3.setCell ⟨g, 1, none⟩ v3) (w.heap.size + 2) v3 zr := World.ownsRow.kept o3 hg1 (.inr hne3)
  have hb3 : Below w.heap.size w w3 := hb.grown hg3 hb.size (fun k hk => by have := (World.ownsRow.lt o2 k hk).1; omega)
  refine ⟨v1, v3, by rw [h0], ?_, ?_, ((hb3.setCell (by simp; omega) _).setCell (by simp) _).setCell (by simp) _⟩
  · rw [hr]; exact Own.mono (World.ownsRow.kept a1 hgr (.inr (a1.ne_of_ge (by omega)))) (by omega)
  · rw [hz]; exact Own.mono (World.ownsRow.kept a3 hgr (.inr (a3.ne_of_ge (by omega)))) (by omega)
theorem push_fin {w wc : World} {rs zs : List Int} {x : Int} {v1 v2 : Value} {rr zr : List Int} (h0 : pushE rs zs x = 0) (o1 : Own wc (w.heap.size + 2) v1 rr) (o2 : Own wc (w.heap.size + 2) v2 zr) (hb : Below w.heap.size w wc)
    (hr : pushR rs zs x = rr) (hz : pushZ rs zs x = zr) :
    PushEnd w rs zs x (.returned (.tuple #[.agg #[v1, v2], .int .i64 0])) ((wc.setCell ⟨w.heap.size + 1, 0, none⟩ v1).setCell ⟨w.heap.size + 1, 1, none⟩ v2) := by
  have hg := grown_trans (grown_setCell wc (w.heap.size + 1) 0 v1) (grown_setCell (wc.setCell ⟨w.heap.size + 1, 0, none⟩ v1) (w.heap.size + 1) 1 v2)
  refine ⟨v1, v2, by rw [h0], ?_, ?_, (hb.setCell (by simp) _).setCell (by simp) _⟩
  · rw [hr]; exact Own.mono (World.ownsRow.kept o1 hg (.inr (o1.ne_of_ge (by omega)))) (by omega)
  · rw [hz]; exact Own.mono (World.ownsRow.kept o2 hg (.inr (o2.ne_of_ge (by omega)))) (by omega)

set_option maxHeartbeats 4000000 in
theorem push_good (ra : Option Addr) (rc : Nat) (rs : List Int) (za : Option Addr) (zc : Nat) (zs : List Int) (x : Int) (w : World) (hv : QV rs zs) (hr : Ints w ra rs) (hz : Ints w za zs) (hrn : ra = none → rc = 0) (hzn : za = none → zc = 0) (hi : isI rs x = true) :
    Calls Try.prog 11 #[.agg #[.slice ra rs.length rc, .slice za zs.length zc], .int .i64 x] w (PushEnd w rs zs x) := by
  have hq := (qchk_iff rs zs).2 hv
  have h1 := hv.rl
  have h2 := hv.zl
  have Hq := Lib.hid hq
  have Hi := Lib.hid hi
  have Hr := Lib.hid hr
  have Hz := Lib.hid hz
  have Hv := Lib.hid hv
  have Hrn := Lib.hid hrn
  have Hzn := Lib.hid hzn
  clear hr hz hq hi hv hrn hzn
  go_enter Try.func11, Try.ntmps11
  go_wp2_with fail
  refine (check_at ra rc rs za zc zs 0 Hq.out _ (by unfold maxLen; omega) (by unfold maxLen; omega) (Hr.out.below (((Below.refl _ w).alloc (Nat.le_refl _) _).alloc (by simp) _) (Nat.le_refl _)) (Hz.out.below (((Below.refl _ w).alloc (Nat.le_refl _) _).alloc (by simp) _) (Nat.le_refl _))).mono ?_
  rintro e w1 ⟨rfl, hb⟩
  obtain ⟨hcell, hfrz⟩ := bcell hb
  have Hb := Lib.hid hb
  have Hr1 := Lib.hid (Hr.out.below ((((Below.refl _ _).alloc (Nat.le_refl _) _).alloc (by simp) _).trans (hb.mono (by simp; omega))) (Nat.le_refl _) : Ints w1 ra rs)
  have Hz1 := Lib.hid (Hz.out.below ((((Below.refl _ _).alloc (Nat.le_refl _) _).alloc (by simp) _).trans (hb.mono (by simp; omega))) (Nat.le_refl _) : Ints w1 za zs)
  have H01 := Lib.hid ((((Below.refl _ w).alloc (Nat.le_refl _) _).alloc (by simp) _).trans (hb.mono (by simp; omega)) : Below w.heap.size w w1)
  have hz1 : w.heap.size + 1 < w1.heap.size := by have := hb.size; simp at this; omega
  clear hb
  go_wp2_with fail
  refine (isItem_at ra rc rs x true Hi.out _ (by omega)).mono ?_
  rintro e w2 ⟨rfl, rfl⟩
  go_wp2
  have d0 : w1.cell? ⟨w.heap.size, 0, none⟩ = some (.slice ra rs.length rc) := by rw [hcell _ _ (by simp; omega)]; simp
  have d1 : w1.cell? ⟨w.heap.size, 1, none⟩ = some (.slice za zs.length zc) := by rw [hcell _ _ (by simp; omega)]; simp
  have hS0 : w1.drew.cell? ⟨w.heap.size, 0, none⟩ = some (.slice ra rs.length rc) ∧ w1.drew.cell? ⟨w.heap.size, 1, none⟩ = some (.slice za zs.length zc) ∧ Below (w.heap.size + 2) w1 w1.drew := ⟨d0, d1, Drawn.below ⟨1, rfl⟩ _⟩
  have hsz : w.heap.size + 2 ≤ w1.heap.size := by omega
  have HA := Lib.hid (fun o => keepA hS0 hsz o : ∀ o, (w1.alloc o).drew.cell? ⟨w.heap.size, 0, none⟩ = some (.slice ra rs.length rc) ∧ (w1.alloc o).drew.cell? ⟨w.heap.size, 1, none⟩ = some (.slice za zs.length zc) ∧ Below (w.heap.size + 2) w1 (w1.alloc o).drew)
  have Hcell := Lib.hid hcell
  have Hfrz := Lib.hid hfrz
  clear hcell hfrz d0 d1
  go_cut [7] (fun s7 wx => RQs w w1 rs zs s7 wx)
  case first =>
    go_region_held3 (fun w' => w'.cell? ⟨w.heap.size, 0, none⟩ = some (.slice ra rs.length rc) ∧ w'.cell? ⟨w.heap.size, 1, none⟩ = some (.slice za zs.length zc) ∧ Below (w.heap.size + 2) w1 w')
      (first
        | (with_reducible exact hS0)
        | exact HA.out _
        | (with_reducible exact keepS (by assumption) hsz hb1)
        | (with_reducible exact keepS (by assumption) hsz hb2)
        | (with_reducible exact keepA (by assumption) hsz _)
        | (with_reducible exact keepA (keepS (keepS hS0 hsz hb1) hsz hb2) hsz _)
        | (with_reducible exact keepC (keepC (by assumption) (by have := hb1.size; simp at this ⊢; omega)) (by have := hb1.size; simp at this ⊢; omega))
        | (with_reducible exact keepC (keepC (by assumption) (by simp; omega)) (by simp; omega))
        | fail)
      (first
        | (go_at_call_of 28 (Value.slice ra rs.length rc); (with_reducible refine Calls.mono (copied_ph (zs := rs) H01.out (by exact (by assumption : _ ∧ _ ∧ _).2.2) (by omega) Hr.out Hrn.out) ?_); rintro e wA ⟨v1, rfl, ho1, hb1⟩; obtain ⟨a1, k1, rfl, -, -⟩ := ho1.shape2; obtain ⟨q1, q1'⟩ := bcell hb1; have z1 := hb1.size; (try simp at z1); (try rw [Nat.add_one_le_iff] at z1))
        | (go_at_call_of 28 (Value.slice za zs.length zc); (with_reducible refine Calls.mono (copied_ph (zs := zs) H01.out (by exact (by assumption : _ ∧ _ ∧ _).2.2) (by omega) Hz.out Hzn.out) ?_); rintro e wB ⟨v2, rfl, ho2, hb2⟩; obtain ⟨a2, k2, rfl, -, -⟩ := ho2.shape2; obtain ⟨q2, q2'⟩ := bcell hb2; have z2 := hb2.size; (try simp at z2); (try rw [Nat.add_one_le_iff] at z2)))
    all_goals (go_wp2_with fail)
    all_goals go_meet
    case rel =>
      exact rq_new (keepS (keepS hS0 hsz hb1) hsz hb2).2.2 hsz ((ho1.below hb2 (Nat.le_refl _)).mono hsz) (ho2.mono (Nat.le_trans hsz z1)) (apart ho1 ho2 (Nat.le_refl _))
    case rel =>
      refine rq_set (keepS (keepA (keepS hS0 hsz hb1) hsz _) hsz hb2).2.2 (Nat.le_trans hsz z1) z2 ?_ ?_ ?_ ?_ (((ho1.alloc _).below hb2 (Nat.le_refl _)).mono hsz) (ho2.mono (by simp; omega)) (ho1.ne_of_lt (Nat.le_refl _)) (ho2.ne_of_ge (by simp)) (apart ho1 ho2 (by simp))
      · rw [q2 _ _ (by simp)]; simp
      · rw [q2 _ _ (by simp)]; simp
      · rw [q2' _ _ (by simp)]; simp
      · rw [q2' _ _ (by simp)]; simp
    case rel =>
      refine rq_set (keepS (keepS (HA.out _) hsz hb1) hsz hb2).2.2 hsz (Nat.lt_of_lt_of_le z1 z2) ?_ ?_ ?_ ?_ ((ho1.below hb2 (Nat.le_refl _)).mono (by simp; omega)) (ho2.mono (by omega)) (ho1.ne_of_ge (by simp)) (ho2.ne_of_ge z1) (apart ho1 ho2 (Nat.le_refl _))
      · rw [q2 _ _ z1, q1 _ _ (by simp)]; simp
      · rw [q2 _ _ z1, q1 _ _ (by simp)]; simp
      · rw [q2' _ _ z1, q1' _ _ (by simp)]; simp
      · rw [q2' _ _ z1, q1' _ _ (by simp)]; simp
  case rest =>
    obtain ⟨g, v1, v2, rfl, hR⟩ := hcut
    have hlo := hR.lo
    have c0 := hR.c0
    have c1 := hR.c1
    have f0 := hR.f0
    have f1 := hR.f1
    have e0 : wc.cell? ⟨w.heap.size, 0, none⟩ = some (.slice ra rs.length rc) := (hR.bel.cell (p := ⟨w.heap.size, 0, none⟩) (by show w.heap.size < _; omega)).trans hS0.1
    have e1 : wc.cell? ⟨w.heap.size, 1, none⟩ = some (.slice za zs.length zc) := (hR.bel.cell (p := ⟨w.heap.size, 1, none⟩) (by show w.heap.size < _; omega)).trans hS0.2.1
    have e2 : wc.cell? ⟨w.heap.size + 1, 0, none⟩ = some (.slice none 0 0) := (hR.bel.cell (p := ⟨w.heap.size + 1, 0, none⟩) (by show w.heap.size + 1 < _; omega)).trans ((Hcell.out _ _ (by simp)).trans (by simp))
    have e3 : wc.cell? ⟨w.heap.size + 1, 1, none⟩ = some (.slice none 0 0) := (hR.bel.cell (p := ⟨w.heap.size + 1, 1, none⟩) (by show w.heap.size + 1 < _; omega)).trans ((Hcell.out _ _ (by simp)).trans (by simp))
    have e4 : wc.frozen? ⟨w.heap.size + 1, 0, none⟩ = false := (hR.bel.frozen (p := ⟨w.heap.size + 1, 0, none⟩) (by show w.heap.size + 1 < _; omega)).trans ((Hfrz.out _ _ (by simp)).trans (by simp))
    have e5 : wc.frozen? ⟨w.heap.size + 1, 1, none⟩ = false := (hR.bel.frozen (p := ⟨w.heap.size + 1, 1, none⟩) (by show w.heap.size + 1 < _; omega)).trans ((Hfrz.out _ _ (by simp)).trans (by simp))
    obtain ⟨a1, k1, rfl, -, -⟩ := hR.o1.shape2
    obtain ⟨a2, k2, rfl, -, -⟩ := hR.o2.shape2
    have HR := Lib.hid hR
    have H0c := Lib.hid (H01.out.trans (hR.bel.mono (by omega)) : Below w.heap.size w wc)
    have Hzc := Lib.hid (Hz.out.below H0c.out (Nat.le_refl _))
    have Hrc := Lib.hid (Hr.out.below H0c.out (Nat.le_refl _))
    clear hR hS0 HA
    by_cases hin : x ∈ zs
    · have T := Lib.hid (pushE_in Hq.out Hi.out hin)
      have hne1 : g ≠ w.heap.size + 1 := by omega
      go_wp2_with (go_at_call 29; refine (contains_at _ _ zs _ true (hasB_iff.2 hin) _ (by unfold maxLen; omega) Hzc.out).mono ?_; rintro e w' ⟨rfl, rfl⟩)
      refine bodyPost_ret (v := .tuple #[.agg #[.slice a1 rs.length k1, .slice a2 zs.length k2], .int .i64 0]) (by simp [results, Try.results11, go_sem, e2, e3]) rfl ?_
      exact push_fin T.out HR.out.o1 HR.out.o2 H0c.out (pushR_ok T.out) (pushZ_in T.out hin)
    · by_cases hfull : 8192 ≤ zs.length
      · have T := Lib.hid (pushE_full Hq.out Hi.out hin hfull)
        have hl : zs.length = 8192 := by omega
        have hl2 : ((zs.length : Int) == 8192) = true := by rw [hl]; rfl
        have Hl := Lib.hid hl
        clear hl
        go_wp2_with (go_at_call 29; refine (contains_at _ _ zs _ false (hasB_not.2 hin) _ (by unfold maxLen; omega) Hzc.out).mono ?_; rintro e w' ⟨rfl, rfl⟩)
        refine bodyPost_ret (v := .tuple #[.agg #[.slice none 0 0, .slice none 0 0], .int .i64 3]) (by simp [results, Try.results11, go_sem, e2, e3]) rfl ?_
        exact PushEnd.zero (by omega) T.out ((H0c.out.setCell (by simp) _).setCell (by simp) _)
      · have T := Lib.hid (pushE_ok Hq.out Hi.out hin hfull)
        have hl2 : ((zs.length : Int) == 8192) = false := by rw [beq_eq_false_iff_ne]; omega
        have hnb := Lib.hid (hasB_not.2 hin)
        go_wp2_with (go_at_call 29; refine (contains_at _ _ zs _ false (hasB_not.2 hin) _ (by unfold maxLen; omega) Hzc.out).mono ?_; rintro e w' ⟨rfl, rfl⟩)
        have hgl := HR.out.hi
        have hgl2 : g < wc.heap.size + 1 := by omega
        have hws := H0c.out.size
        have hpl := pl_le rs zs x
        have Ho2 := Lib.hid HR.out.o2
        have Hne := Lib.hid HR.out.ne2
        have Hins := Lib.hid ((pushZ_ins T.out hin).trans (show ins rs zs x = insAt zs (pl rs zs x) x from rfl))
        generalize hp : pl rs zs x = p at *
        have Hp := Lib.hid hp
        clear hp hl2 hin hfull
        have Hin := Lib.hid (hasB_not.1 hnb.out)
        have Hple := Lib.hid hpl
        have HgA := Lib.hid (fun o => Nat.lt_of_lt_of_le hgl ((Below.refl _ wc).alloc (Nat.le_refl _) o).size : ∀ o, g < (wc.alloc o).drew.heap.size)
        have Hgl := Lib.hid (show g < wc.drew.heap.size from hgl)
        have HcD := Lib.hid (show wc.drew.cell? ⟨g, 1, none⟩ = some (.slice a2 zs.length k2) from c1)
        have HcA := Lib.hid (fun o => ((((Below.refl _ wc).alloc (Nat.le_refl _) o).cell (p := ⟨g, 1, none⟩) hgl).trans c1) : ∀ o, (wc.alloc o).drew.cell? ⟨g, 1, none⟩ = some (.slice a2 zs.length k2))
        have hw0 : w.heap.size < wc.heap.size := by omega
        have hw1 : ¬ w.heap.size = wc.heap.size := by omega
        have hw2 : ¬ g = wc.heap.size := by omega
        have HB := Lib.hid (show w.heap.size + 2 ≤ wc.heap.size by omega)
        have Hn0 := Lib.hid (show some g ≠ (Value.slice a2 zs.length k2).ownBlock from fun e => Hne.out e.symm)
        have Hn1 := Lib.hid (show some (w.heap.size + 1) ≠ (Value.slice a2 zs.length k2).ownBlock from fun e => Ho2.out.ne_of_ge (by omega) e.symm)
        have Hn2 := Lib.hid (show w.heap.size + 1 < wc.heap.size by omega)
        have Hrd := Lib.hid (show Ints wc.drew ra rs from Hrc.out)
        have Hzd := Lib.hid (show Ints wc.drew za zs from Hzc.out)
        have Hra := Lib.hid (show ∀ o, Ints (wc.alloc o).drew ra rs from fun o => Hrc.out.alloc o)
        have Hza := Lib.hid (show ∀ o, Ints (wc.alloc o).drew za zs from fun o => Hzc.out.alloc o)
        go_region_with (first
          | (go_at_call 31; (with_reducible refine Calls.mono (place_at ra rc rs za zc zs x p Hp.out wc.drew Hv.out Hi.out Hin.out Hrd.out Hzd.out) ?_); rintro e wP ⟨rfl, hbP⟩; have z3 : g < wP.heap.size := Nat.lt_of_lt_of_le Hgl.out hbP.size; have z4 : ¬ g = wP.heap.size := Nat.ne_of_lt z3; have z5 : wP.cell? ⟨g, 1, none⟩ = some (.slice a2 zs.length k2) := (hbP.cell (p := ⟨g, 1, none⟩) Hgl.out).trans HcD.out)
          | (go_at_call 31; (with_reducible refine Calls.mono (place_at ra rc rs za zc zs x p Hp.out (wc.alloc _).drew Hv.out Hi.out Hin.out (Hra.out _) (Hza.out _)) ?_); rintro e wP ⟨rfl, hbP⟩; have z3 : g < wP.heap.size := Nat.lt_of_lt_of_le (HgA.out _) hbP.size; have z4 : ¬ g = wP.heap.size := Nat.ne_of_lt z3; have z5 : wP.cell? ⟨g, 1, none⟩ = some (.slice a2 zs.length k2) := (hbP.cell (p := ⟨g, 1, none⟩) (HgA.out _)).trans (HcA.out _))
          | (go_at_call 30; (with_reducible refine Calls.mono (ins1 Ho2.out hbP Hple.out h2 HB.out) ?_); rintro e w3 ⟨v3, rfl, ho3, hg3, hnb3⟩; obtain ⟨a3, k3, rfl, -, -⟩ := ho3.shape2
             have j0 := hg3.cell c0 Hn0.out; have j1 := hg3.cell c1 Hn0.out; have j2 := hg3.cell e2 Hn1.out; have j3 := hg3.cell e3 Hn1.out
             have j4 := (hg3.frozen_far ⟨g, 1, none⟩ hgl Hn0.out).trans f1; have j5 := (hg3.frozen_far ⟨w.heap.size + 1, 0, none⟩ Hn2.out Hn1.out).trans e4; have j6 := (hg3.frozen_far ⟨w.heap.size + 1, 1, none⟩ Hn2.out Hn1.out).trans e5)
          | (go_at_call 30; (with_reducible refine Calls.mono (ins2 Ho2.out hbP Hple.out h2 HB.out) ?_); rintro e w3 ⟨v3, rfl, ho3, hg3, hnb3⟩; obtain ⟨a3, k3, rfl, -, -⟩ := ho3.shape2
             have j0 := hg3.cell c0 Hn0.out; have j1 := hg3.cell c1 Hn0.out; have j2 := hg3.cell e2 Hn1.out; have j3 := hg3.cell e3 Hn1.out
             have j4 := (hg3.frozen_far ⟨g, 1, none⟩ hgl Hn0.out).trans f1; have j5 := (hg3.frozen_far ⟨w.heap.size + 1, 0, none⟩ Hn2.out Hn1.out).trans e4; have j6 := (hg3.frozen_far ⟨w.heap.size + 1, 1, none⟩ Hn2.out Hn1.out).trans e5)
          | fail)
        all_goals clear c0 c1 f0 f1 e0 e1 e2 e3 e4 e5
        all_goals have hne3 := Lib.hid (ne3 hnb3 Hne.out HR.out.hi)
        all_goals have Hg3 := Lib.hid hg3
        all_goals have Ho3 := Lib.hid ho3
        all_goals clear hnb3 hg3 ho3
        all_goals go_wp2
        all_goals refine bodyPost_ret (v := .tuple #[.agg #[.slice a1 rs.length k1, .slice a3 (insAt zs p x).length k3], .int .i64 0]) (by simp [results, Try.results11, go_sem, j2, j3]) rfl ?_
        all_goals exact push_fin2 T.out HR.out.o1 HR.out.o2 HR.out.ne12 HR.out.ne1 HR.out.hi HR.out.lo Hg3.out HR.out.ne2 hne3.out Ho3.out H0c.out (pushR_ok T.out) Hins.out

theorem push_any (ra : Option Addr) (rc : Nat) (rs : List Int) (za : Option Addr) (zc : Nat) (zs : List Int) (x : Int) (w : World) (hn : rs.length ≤ maxLen) (hm : zs.length ≤ maxLen) (hr : Ints w ra rs) (hz : Ints w za zs) (hrn : ra = none → rc = 0) (hzn : za = none → zc = 0) :
    Calls Try.prog 11 #[.agg #[.slice ra rs.length rc, .slice za zs.length zc], .int .i64 x] w (PushEnd w rs zs x) := by
  by_cases hq : qchk rs zs = 0
  · have hv := (qchk_iff rs zs).1 hq
    cases hi : isI rs x with
    | false => exact push_rng ra rc rs za zc zs x w hv.rl hm hr hz hq hi
    | true => exact push_good ra rc rs za zc zs x w hv hr hz hrn hzn hi
  · exact push_bad ra rc rs za zc zs x w hn hm hr hz hq
end Go.Proofs.Ytpegkmancaoeiaa
