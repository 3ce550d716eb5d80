/-
  PartitionClasses: the walk of the law. Classes returns each member once, each class ascending and below the next one by its least member, which Find returns.
-/
import Derived.Test.YtmpofbiphklilaaPClasses
import Derived.Test.YtmpofbiphklilaaPJoin
import Derived.Test.YtmpofbiphklilaaPAwake
namespace Go.Proofs.Ytmpofbiphklilaa
open Go.RowKit
set_option linter.unusedVariables false

theorem ownsRow_below {w w' : World} {base B e s n : Nat} {v : Value} {xs : List Value} (h : w.ownsRow base e s v n xs) (hb : Below B w w') (hB : w.heap.size ≤ B) : w'.ownsRow base e s v n xs := by
  obtain ⟨h1, h2⟩ := h
  refine ⟨h1, ?_⟩
  rcases h2 with h2 | ⟨g', cap', cur, hv, hb', hh, hr⟩
  · exact .inl h2
  · refine .inr ⟨_, _, _, hv, hb', (hb.block _ ?_).trans hh, hr⟩
    rcases Nat.lt_or_ge g' w.heap.size with hlt | hge
    · omega
    · rw [Array.getElem?_eq_none hge] at hh; cases hh
theorem Cls.below {w w' : World} {base B : Nat} {v : Value} {vs : List Value} {L : List (List Nat)} (h : Cls w base v vs L) (hb : Below B w w') (hB : w.heap.size ≤ B) : Cls w' base v vs L :=
  ⟨ownsRow_below h.own hb hB, h.len, fun i hi => ownsRow_below (h.row i hi) hb hB, h.ne⟩
/-- Class i lies in block g. -/
structure CAt (w : World) (G i : Nat) (l : List Nat) (g c : Nat) : Prop where
  head : w.cell? ⟨G, i, none⟩ = some (.slice (some ⟨g, 0, none⟩) l.length c)
  at_ : ∀ k, k < l.length → w.cell? ⟨g, k, none⟩ = some (.int .i64 ((l.getD k 0 : Nat) : Int))
theorem Cls.at_ {w : World} {base G m cap i : Nat} {vs : List Value} {L : List (List Nat)} (h : Cls w base (.slice (some ⟨G, 0, none⟩) m cap) vs L) (hm : vs.length = m) (hi : i < L.length) (hne : 0 < (L.getD i []).length) :
    ∃ g c, CAt w G i (L.getD i []) g c := by
  subst hm
  have hr := h.row i hi
  have hlen := h.len
  rcases hr.2 with ⟨_, hn⟩ | ⟨g, c, cur, hv, hb, hh, hrest⟩
  · rw [length_asI] at hn; omega
  · have hrow : Row w base g c (asI (L.getD i [])) := by
      unfold Row
      rw [← hv]; exact hr
    refine ⟨g, c, ⟨?_, fun k hk => ?_⟩⟩
    · rw [World.ownsRow.cellAt h.own i (by omega)]
      rw [length_asI] at hv
      rw [← hv]
      simp [List.getD_eq_getElem?_getD, show i < vs.length by omega]
    · rw [hrow.cell (by rw [length_asI]; exact hk), getD_asI]

theorem bool_info : (Try.prog.info? 4).map (fun i => (i.zero, i.size, i.bytes)) = some (some (.bool false), 1, 1) := by kernel_rfl
/-- The row of bools at block g says which numbers are in S. -/
def SeenAt (w : World) (base g n : Nat) (S : List Nat) : Prop :=
  ∃ bs : List Bool, bs.length = n ∧ w.ownsRow base 4 1 (.slice (some ⟨g, 0, none⟩) n n) n (bs.map Value.bool) ∧ ∀ x, x < n → bs.getD x false = decide (x ∈ S)
theorem SeenAt.cell {w : World} {base g n x : Nat} {S : List Nat} (h : SeenAt w base g n S) (hx : x < n) (hS : x ∉ S) : w.cell? ⟨g, x, none⟩ = some (.bool false) := by
  obtain ⟨bs, hl, hr, hb⟩ := h
  rw [World.ownsRow.cellAt hr x (by omega)]
  have := hb x hx
  rw [decide_eq_false hS] at this
  subst hl
  simp [List.getD_eq_getElem?_getD, hx] at this ⊢
  exact this
theorem SeenAt.free {w : World} {base g n : Nat} {S : List Nat} (h : SeenAt w base g n S) (x : Nat) : w.frozen? ⟨g, x, none⟩ = false := by
  obtain ⟨bs, hl, hr, hb⟩ := h
  exact World.ownsRow.frozenAt hr x
theorem SeenAt.set {w : World} {base g n : Nat} {S : List Nat} (h : SeenAt w base g n S) (x : Nat) : SeenAt (w.setCell ⟨g, x, none⟩ (.bool true)) base g n (S ++ [x]) := by
  obtain ⟨bs, hl, hr, hb⟩ := h
  refine ⟨bs.set x true, by simpa using hl, ?_, fun y hy => ?_⟩
  · rw [List.map_set]
    exact (World.ownsRow.stored hr x (.bool true)).1
  · by_cases e : y = x
    · subst e
      rw [getD_set_same _ _ _ _ (by omega)]
      simp
    · rw [getD_set_other _ _ _ _ _ e, hb y hy]
      simp [e]
theorem SeenAt.drewN {w : World} {base g n : Nat} {S : List Nat} (h : SeenAt w base g n S) (k : Nat) : SeenAt (w.drewN k) base g n S := h
theorem SeenAt.new {w : World} {base g n : Nat} (h : w.ownsRow base 4 1 (.slice (some ⟨g, 0, none⟩) n n) n (madeCells #[Value.bool false] n).toList) : SeenAt w base g n [] := by
  refine ⟨List.replicate n false, by simp, ?_, fun x hx => by simp [List.getD_eq_getElem?_getD, hx]⟩
  rw [show (List.replicate n false).map Value.bool = (madeCells #[Value.bool false] n).toList by rw [toList_madeCells_one]; simp]
  exact h

theorem CAt.below {w w' : World} {G i g c B : Nat} {l : List Nat} (h : CAt w G i l g c) (hb : Below B w w') (hB : w.heap.size ≤ B) : CAt w' G i l g c :=
  ⟨(hb.cell (p := ⟨G, i, none⟩) (Nat.lt_of_lt_of_le (World.block_lt_of_cell? _ _ h.head) hB)).trans h.head, fun k hk => (hb.cell (p := ⟨g, k, none⟩) (Nat.lt_of_lt_of_le (World.block_lt_of_cell? _ _ (h.at_ k hk)) hB)).trans (h.at_ k hk)⟩
theorem CAt.ne {w : World} {G i g c : Nat} {l : List Nat} (h : CAt w G i l g c) (hl : 0 < l.length) : G ≠ w.heap.size ∧ g ≠ w.heap.size := by
  have h1 := World.block_lt_of_cell? _ _ h.head
  have h2 := World.block_lt_of_cell? _ _ (h.at_ 0 hl)
  simp at h1 h2
  omega

set_option maxHeartbeats 3200000 in
set_option maxRecDepth 100000 in
theorem classes_law (a : Option Addr) (c : Nat) (p : List Int) (w : World) (hn : p.length ≤ maxLen) (hz : Ints w a p) :
    Calls Try.prog 7 #[.slice a p.length c] w fun e w' => e = .returned (.bool true) ∧ Below w.heap.size w w' := by
  have Hz := Lib.hid hz
  clear hz
  by_cases hbig : 300 < p.length
  · go_enter Try.func7, Try.ntmps7
    go_wp2_with (go_at_call 11; refine (awake_any _).mono ?_; rintro e w' ⟨rfl, hb⟩)
    go_ret
    exact ⟨rfl, hb⟩
  by_cases hc : chk p = 0
  · have hv := chk_valid hc
    have Hv := Lib.hid hv
    have Hc := Lib.hid hc
    obtain ⟨n, hl⟩ : ∃ n, p.length = n := ⟨_, rfl⟩
    have Hl := Lib.hid hl
    have hF := Lib.hid (fine_clsTo hv)
    rw [hl] at hbig hn ⊢
    have hcls : ∀ X : World, Ints X a p → Calls Try.prog 24 #[.slice a n c] X fun e w' => ∃ v vs, e = .returned (.tuple #[v, .int .i64 0]) ∧ Cls w' X.heap.size v vs (clsTo p n) ∧ Below X.heap.size X w' := fun X hX => by
      have := classes_good a c p X hX hv
      rw [hl] at this
      exact this
    have hrc : ∀ X : World, Ints X a p → Calls Try.prog 12 #[.slice a n c] X fun e w' => e = .returned (.int .i64 0) ∧ Drawn X w' := fun X hX => by
      have := rcheck_any a c p X (by rw [hl]; exact hn) hX
      rw [hl, hc] at this
      exact this
    obtain ⟨i0, hi, hz0, hz1, hz2⟩ := info_parts bool_info
    clear hc hv hl
    go_enter Try.func7, Try.ntmps7
    go_wp2_with fail
    refine (hcls w Hz.out).mono ?_
    rintro e w1 ⟨v, vs, rfl, hcl, hb1⟩
    obtain ⟨av, cv, rfl⟩ := shapeS' hcl.own
    have Hb1 := Lib.hid hb1
    have Hz1 := Lib.hid (Hz.out.below hb1 (Nat.le_refl _))
    obtain ⟨m, hm⟩ : ∃ m, vs.length = m := ⟨_, rfl⟩
    rw [hm] at hcl ⊢
    have Hm := Lib.hid hm
    have Hcl := Lib.hid hcl
    clear hb1 hcl hm
    go_wp2_with fail
    refine (hrc w1 Hz1.out).mono ?_
    rintro e w1' ⟨rfl, nd, rfl⟩
    go_wp2_with (at_make; refine wpList_make_full _ rfl _ _ 44 rfl w1.heap.size 4 i0 (.bool false) 1 Try.underlying44 hi hz0 hz1 _ _ _ _ n rfl rfl rfl rfl ?c1 ?c2 ?c3 ?_)
    case c1 => rw [hz2]; omega
    case c2 => unfold maxLen; omega
    case c3 => exact Nat.le_refl _
    intro w2 hown hg
    have Hs0 := Lib.hid (SeenAt.new hown)
    have Hb2 := Lib.hid (((Drawn.below ⟨nd, rfl⟩ _ : Below w1.heap.size w1 (w1.drewN nd))).grown hg (by simp) (fun k hk => by cases hk))
    have HL := Lib.hid (show m = (clsTo p n).length by rw [← Hm.out]; exact Hcl.out.len)
    have hF2 := Lib.hid (show Fine p (clsTo p n) by rw [← Hl.out]; exact hF.out)
    generalize clsTo p n = L at *
    have hmb : m ≤ 300 := by have := hF2.out.few; rw [Hl.out] at this; rw [HL.out]; omega
    clear hown hg hF hcls hrc
    go_wp2
    go_loopw [6, 7] (fun nn ii wr => ∃ i : Nat, i ≤ m ∧ ii = .int .i64 i ∧ nn = .int .i64 ((flatTo L i 0).length : Nat) ∧ SeenAt wr w1.heap.size w1.heap.size n (flatTo L i 0) ∧ Below w1.heap.size w1 wr) (fun _ ii _ => m - (intOf ii).toNat)
    case atStart => exact ⟨0, Nat.zero_le _, rfl, by simp [flatTo_zero], by rw [flatTo_zero]; exact Hs0.out, Hb2.out⟩
    case round =>
      obtain ⟨i, hi, rfl, rfl, hs, hb⟩ := hrel
      have Hs := Lib.hid hs
      have Hb := Lib.hid hb
      have hcl := Hcl.out.below hb (Nat.le_refl _)
      have hz := Hz1.out.below hb (Nat.le_refl _)
      have Hz := Lib.hid hz
      clear hs hz hb
      by_cases hlt : i < m
      · have hi2 : i < L.length := by rw [← HL.out]; exact hlt
        obtain ⟨G, cap, hav⟩ : ∃ G cap, Value.slice av m cv = .slice (some ⟨G, 0, none⟩) m cap := by
          rcases shapeS Hcl.out.own with ⟨_, h2⟩ | ⟨G, cap, h1, _⟩
          · exfalso
            have := Hm.out
            rw [h2] at this
            simp at this
            omega
          · exact ⟨G, cap, by rw [Hm.out] at h1; exact h1⟩
        obtain ⟨rfl, -, rfl⟩ : av = some ⟨G, 0, none⟩ ∧ m = m ∧ cv = cap := by simpa using hav
        have hpos := hF2.out.ne i hi2
        have hsm := hF2.out.small i
        rw [Hl.out] at hsm
        obtain ⟨gi, ci, hA⟩ := Hcl.out.at_ Hm.out hi2 hpos
        have hne := hA.ne hpos
        have HA := Lib.hid hA
        have hAr := hA.below Hb.out (Nat.le_refl _)
        have hp : i ≤ 0 ∨ ∃ g' c' l', 0 < i ∧ CAt wr G (i - 1) l' g' c' ∧ 0 < l'.length ∧ ((l'.getD 0 0 : Nat) : Int) < (((L.getD i []).getD 0 0 : Nat) : Int) := by
          cases i with
          | zero => exact .inl (Nat.le_refl _)
          | succ i' =>
            have hpos' := hF2.out.ne i' (by omega)
            obtain ⟨g', c', hA'⟩ := Hcl.out.at_ Hm.out (show i' < L.length by omega) hpos'
            exact .inr ⟨g', c', _, by omega, hA'.below Hb.out (Nat.le_refl _), hpos', by have := hF2.out.asc i' hi2; omega⟩
        have hfind : ∀ (k : Nat), k < (L.getD i []).length → ∀ X : World, Below w1.heap.size w1 X → Calls Try.prog 18 #[.slice a n c, .int .i64 (((L.getD i []).getD k 0 : Nat) : Int)] X fun e w' => e = .returned (.tuple #[.int .i64 (((L.getD i []).getD 0 0 : Nat) : Int), .int .i64 0]) ∧ X = w' := fun k hk X hX => by
          have h1 := find_any a c p (((L.getD i []).getD k 0 : Nat) : Int) X (by rw [Hl.out]; exact hn) (Hz1.out.below hX (Nat.le_refl _))
          have h2 := hF2.out.lt i hi2 k hk
          have h3 := hF2.out.head i hi2 k hk
          have e : findS p (((L.getD i []).getD k 0 : Nat) : Int) = ((((L.getD i []).getD 0 0 : Nat) : Int), 0) := by
            have hx : isB p.length (((L.getD i []).getD k 0 : Nat) : Int) = true := isB_iff.2 ⟨by omega, by omega⟩
            simp only [findS, Hc.out, hx, ne_eq, not_true_eq_false, if_false, if_true, Int.toNat_natCast, h3]
          rw [e, Hl.out] at h1
          exact h1
        have hx := fun k hk => hF2.out.lt i hi2 k hk
        have hup := fun k hk => hF2.out.up i hi2 k hk
        have hnew := fun k hk => hF2.out.new i hi2 k hk
        have Hnext := Lib.hid (flatTo_next hi2)
        have Hsucc := Lib.hid (fun (k : Nat) (hk : k < (L.getD i []).length) => flatTo_succ hk)
        rw [Hl.out] at hx
        have Hx := Lib.hid hx
        have Hup := Lib.hid hup
        have Hnew := Lib.hid hnew
        have Hfind := Lib.hid hfind
        have e0 := hAr.head
        have e1 := hAr.at_ 0 hpos
        clear hcl hA hAr hx hup hnew hfind hav hi2
        generalize hli : L.getD i [] = li at *
        clear hli
        obtain ⟨ln, hln⟩ : ∃ ln, li.length = ln := ⟨_, rfl⟩
        have Hln := Lib.hid hln
        rw [hln] at e0 hpos hsm
        obtain ⟨x0, hx0⟩ : ∃ x0, li.getD 0 0 = x0 := ⟨_, rfl⟩
        have Hx0 := Lib.hid hx0
        rw [hx0] at e1 hp
        clear hln hx0
        have hlb : ln ≤ 300 := by omega
        have tl : ((ln : Int) == 0) = false := by rw [beq_eq_false_iff_ne]; omega
        rcases hp with hi0 | ⟨g', c', l', hi0, hA', hl', hlt'⟩
        focus
          have tz1 : decide ((0 : Int) < (i : Int)) = false := by rw [decide_eq_false_iff_not]; omega
          have tz2 : ¬ (0 : Int) < (i : Int) := by omega
          have tz3 : ¬ 0 < i := by omega
          clear hi0
        rotate_left
        focus
          have e2 := hA'.head
          have e3 := hA'.at_ 0 hl'
          clear hA'
          generalize l'.getD 0 0 = y0 at *
          generalize l'.length = ln' at *
          have ty1 : decide ((x0 : Int) ≤ (y0 : Int)) = false := by rw [decide_eq_false_iff_not]; omega
          have ty2 : decide (x0 ≤ y0) = false := by rw [decide_eq_false_iff_not]; omega
        all_goals
          go_wp2
          go_quiet (fail)
          go_wp2
          go_loopw [6, 8] (fun nn kk wq => ∃ k : Nat, k ≤ ln ∧ kk = .int .i64 k ∧ nn = .int .i64 ((flatTo L i k).length : Nat) ∧ SeenAt wq w1.heap.size w1.heap.size n (flatTo L i k) ∧ Below w1.heap.size w1 wq) (fun _ kk _ => ln - (intOf kk).toNat)
          case atStart => exact ⟨0, Nat.zero_le _, rfl, rfl, Hs.out.drewN _, Hb.out.trans (Drawn.below ⟨_, rfl⟩ _)⟩
          case round =>
            obtain ⟨k, hk, rfl, rfl, hs, hb⟩ := hrel
            have Hs := Lib.hid hs
            have Hb := Lib.hid hb
            have f0 := (HA.out.below hb (Nat.le_refl _)).head
            rw [Hln.out] at f0
            have f1 := (HA.out.below hb (Nat.le_refl _)).at_ 0 (by rw [Hln.out]; exact hpos)
            rw [Hx0.out] at f1
            have hq1 := hne.1
            have hq2 := hne.2
            by_cases hkl : k < ln
            · have f2 := (HA.out.below hb (Nat.le_refl _)).at_ k (by rw [Hln.out]; exact hkl)
              have hxn := Hx.out k (by rw [Hln.out]; exact hkl)
              have hxnew := Hnew.out k (by rw [Hln.out]; exact hkl)
              have Hs1 := Lib.hid (Hsucc.out k (by rw [Hln.out]; exact hkl))
              have hfd := Hfind.out k (by rw [Hln.out]; exact hkl)
              rw [Hx0.out] at hfd
              have f5 : k ≤ 0 ∨ ∃ y : Nat, 0 < k ∧ wr.cell? ⟨gi, k - 1, none⟩ = some (.int .i64 (y : Int)) ∧ (y : Int) < ((li.getD k 0 : Nat) : Int) := by
                by_cases e : k ≤ 0
                · exact .inl e
                · have hk1 : k - 1 < ln := by omega
                  have := Hup.out (k - 1) (by rw [Hln.out]; omega)
                  rw [show k - 1 + 1 = k by omega] at this
                  exact .inr ⟨_, by omega, (HA.out.below hb (Nat.le_refl _)).at_ (k - 1) (by rw [Hln.out]; exact hk1), by omega⟩
              obtain ⟨x, hx⟩ : ∃ x, li.getD k 0 = x := ⟨_, rfl⟩
              rw [hx] at f2 hxn hxnew hfd f5
              have f3 := hs.cell hxn hxnew
              have f4 := hs.free x
              have hfl : (flatTo L i k).length ≤ 300 := by have := hF2.out.flat i k; rw [Hl.out] at this; omega
              have Hs2 := Lib.hid (hs.set x)
              have Hxe := Lib.hid hx
              have Hfd := Lib.hid hfd
              clear hs hb hxnew hfd hx
              rcases f5 with hk0 | ⟨y, hk0, f6, hyx⟩
              focus
                have tk1 : decide ((0 : Int) < (k : Int)) = false := by rw [decide_eq_false_iff_not]; omega
                have tk2 : ¬ (0 : Int) < (k : Int) := by omega
                have tk3 : ¬ 0 < k := by omega
                clear hk0
              all_goals
                go_wp2_with (go_at_call 18; refine (Hfd.out _ (Hb.out.setCell (p := ⟨w1.heap.size, x, none⟩) (Nat.le_refl _) _)).mono ?_; rintro e w' ⟨rfl, rfl⟩)
                go_roundw
                case rel => exact ⟨k + 1, by omega, by go_num, by rw [Hs1.out]; simp, by rw [Hs1.out, Hxe.out]; exact Hs2.out, Hb.out.setCell (p := ⟨w1.heap.size, x, none⟩) (Nat.le_refl _) _⟩
                case measure => simp [intOf]; omega
            · obtain rfl : k = ln := by omega
              clear hs hb
              have hn2 := Hnext.out
              rw [Hln.out] at hn2
              have Hn2 := Lib.hid hn2
              clear hn2
              go_wp2
              go_roundw
              case rel => exact ⟨i + 1, by omega, by go_num, by rw [Hn2.out], by rw [← Hn2.out]; exact Hs.out, Hb.out⟩
              case measure => simp [intOf]; omega
      · obtain rfl : i = m := by omega
        have hall := hF2.out.all
        rw [← HL.out] at hall
        rw [hall, Hl.out]
        clear hcl hall
        go_wp2_with (go_at_call 11; refine (awake_any _).mono ?_; rintro e w' ⟨rfl, hba⟩)
        go_ret
        exact ⟨rfl, (Hb1.out.trans (Hb.out.mono Hb1.out.size)).trans (hba.mono (Nat.le_trans Hb1.out.size Hb.out.size))⟩
  · obtain ⟨x, hx⟩ : ∃ x, chk p = x := ⟨_, rfl⟩
    have hc0 : (x == 0) = false := by rw [hx] at hc; simpa using hc
    have hc1 : (x != 0) = true := by rw [hx] at hc; simpa using hc
    have hcls : ∀ X : World, Ints X a p → Calls Try.prog 24 #[.slice a p.length c] X fun e w' => e = .returned (.tuple #[.slice none 0 0, .int .i64 x]) ∧ Below X.heap.size X w' := fun X hX => by
      have := classes_bad a c p X hn hX hc
      rw [hx] at this
      exact this
    have hrc : ∀ X : World, Ints X a p → Calls Try.prog 12 #[.slice a p.length c] X fun e w' => e = .returned (.int .i64 x) ∧ Drawn X w' := fun X hX => by
      have := rcheck_any a c p X hn hX
      rw [hx] at this
      exact this
    have Hx := Lib.hid hx
    clear hc hx
    go_enter Try.func7, Try.ntmps7
    go_wp2_with fail
    refine (hcls w Hz.out).mono ?_
    rintro e w1 ⟨rfl, hb1⟩
    have Hb1 := Lib.hid hb1
    have Hz1 := Lib.hid (Hz.out.below hb1 (Nat.le_refl _))
    clear hb1
    go_wp2_with fail
    refine (hrc w1 Hz1.out).mono ?_
    rintro e w1' ⟨rfl, nd, rfl⟩
    go_wp2_with (first
      | (go_at_call 12; refine (hrc _ (Hz1.out.drewN _)).mono ?_; rintro e w' ⟨rfl, n1, rfl⟩)
      | (go_at_call 11; refine (awake_any _).mono ?_; rintro e w' ⟨rfl, hb⟩))
    go_ret
    exact ⟨rfl, (Hb1.out.trans (Drawn.below ⟨_, rfl⟩ _)).trans (hb.mono Hb1.out.size)⟩
end Go.Proofs.Ytmpofbiphklilaa
