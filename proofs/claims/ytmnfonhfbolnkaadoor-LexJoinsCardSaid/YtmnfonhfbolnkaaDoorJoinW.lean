/-
  Join, the program's and the definition's.
-/
import Derived.Test.YtmnfonhfbolnkaaDoorJoinM
import Derived.Test.YtmnfonhfbolnkaaDoorShelfBP
import Derived.Shelf.Strings.OnBuilder
namespace Go.Proofs.YtmnfonhfbolnkaaDoor
open Go.RowKit Go.Shelf
set_option linter.unusedVariables false
set_option linter.unusedSimpArgs false

theorem join_extra : Builder.Extra Tryd.prog Tryd.join_ren where
  sizeBuilder := by kernel_rfl
  liesBuilder := by kernel_rfl
  t5 := Tryd.underlying5
  a5 := Tryd.isAgg5
  z5 := Tryd.sizeOf5
  v5 := Tryd.zeroValue5
  infoByte := by kernel_rfl
  cellsByte := by kernel_rfl
  sizeByte := by kernel_rfl
  neB5 := by decide
theorem str_info : (Tryd.prog.info? 9).map (fun i => (i.zero, i.size, i.bytes)) = some (some (.string ⟨#[]⟩), 1, 16) := by kernel_rfl
/-- A slice of texts of the call's own. -/
def OwnS (w : World) (base : Nat) (v : Value) (xs : List ByteArray) : Prop := w.ownsRow base 9 1 v xs.length (xs.map Value.string)
theorem OwnS.nil (w : World) (base : Nat) : OwnS w base (.slice none 0 0) [] := World.ownsRow_nil _ _ _ _
theorem OwnS.alloc {w : World} {base : Nat} {v : Value} {xs : List ByteArray} (h : OwnS w base v xs) (o : Obj) : OwnS (w.alloc o) base v xs := World.ownsRow.alloc h o
theorem OwnS.grown {w0 w w1 : World} {base : Nat} {v : Value} {xs : List ByteArray} {o : Obj} (h : OwnS w base v xs) (hg : (w.alloc o).grownBy w1 v.ownBlock) (hb : Below base w0 w) (hB : base ≤ w.heap.size) : Below base w0 w1 :=
  (hb.alloc hB o).grown hg (by simp; omega) (fun k hk => (World.ownsRow.lt h k hk).1)
theorem OwnS.shape {w : World} {base : Nat} {v : Value} {xs : List ByteArray} (h : OwnS w base v xs) : (v = .slice none 0 0 ∧ xs = []) ∨ ∃ g c, v = .slice (some ⟨g, 0, none⟩) xs.length c ∧ g < w.heap.size ∧ xs.length ≤ c ∧ ∀ j x, xs[j]? = some x → w.cell? ⟨g, 0 + j, none⟩ = some (.string x) := by
  have h0 := h
  rcases h.2 with ⟨rfl, hn⟩ | ⟨g, cap, cur, rfl, hb, hh, hnc, hr⟩
  · exact .inl ⟨rfl, List.length_eq_zero_iff.mp hn⟩
  · refine .inr ⟨g, cap, rfl, (Array.getElem?_eq_some_iff.1 hh).1, hnc, fun j x hx => ?_⟩
    have hc := World.ownsRow.cells h0 (g := g) rfl j (.string x) (by simp [hx])
    rwa [Addr.add_lit] at hc
theorem OwnS.isSlice {w : World} {base : Nat} {v : Value} {xs : List ByteArray} (h : OwnS w base v xs) : ∃ a c, v = .slice a xs.length c := by
  rcases h.shape with ⟨rfl, rfl⟩ | ⟨g, c, rfl, _⟩
  · exact ⟨none, 0, rfl⟩
  · exact ⟨_, c, rfl⟩
theorem wpList_append_str {w : World} {ops : Array Oper} {rest : List Oper} {o : Oper} {a : Act} {Q : Exit → Act → World → Prop} (hg : o.guard = none) (s x : Operand)
    (hop : o.op = .call { callee := .builtin .append, args := #[s, x], argTypes := #[43, 43] }) (base : Nat) (v : Value) (xs : List ByteArray) (hs : a.eval s = v) (hown : OwnS w base v xs)
    (B : Nat) (z : ByteArray) (hx : a.eval x = .slice (some ⟨B, 0, none⟩) 1 1) (hc : w.cell? ⟨B, 0, none⟩ = some (.string z)) (hlen : (xs.length + 1) * 16 ≤ 140737488355328) (hbase : base ≤ w.heap.size)
    (hK : ∀ v' w', OwnS w' base v' (xs ++ [z]) → w.grownBy w' v.ownBlock → wpList Tryd.prog ops Q rest (a.put o.dst v') w') : wpList Tryd.prog ops Q (o :: rest) a w := by
  obtain ⟨i0, hi, hz0, hz1, hz2⟩ := info_parts str_info
  refine wpList_append_own w hg s x 43 hop base 9 i0 (.string ⟨#[]⟩) 1 16 Tryd.underlying43 hi hz0 hz1 hz2 rfl (by decide) v xs.length (xs.map .string) hs hown ⟨B, 0, none⟩ 1 1 [.string z] hx rfl ?_ ?_ ?_ hlen hbase ?_
  · intro j u hj
    match j, hj with
    | 0, hj => simp at hj; subst hj; simpa [Addr.add] using hc
  · intro u hu; simp at hu; subst hu; rfl
  · unfold maxLen; omega
  · intro v' w' h1 h2 _
    refine hK v' w' ?_ h2
    unfold OwnS
    rw [List.length_append, List.map_append]
    exact h1
theorem sjoin_at {w : World} {base : Nat} {v : Value} {xs : List ByteArray} (h : OwnS w base v xs) (hn : xs.length ≤ 70000) (j : List UInt8) (hj : Lib.join (xs.map (·.data.toList)) [32] = j) (hl : j.length ≤ 70000) :
    Calls Tryd.prog 33 #[v, .string ⟨#[32]⟩] w fun e w' => e = .returned (.string ⟨j.toArray⟩) ∧ Below w.heap.size w w' := by
  subst hj
  rcases h.shape with ⟨rfl, rfl⟩ | ⟨g, c, rfl, hg, hc, hcell⟩
  · refine (Any.strings_Join_none Tryd.join join_extra none 0 ⟨#[32]⟩ w).mono ?_
    rintro e w' ⟨rfl, rfl⟩
    exact ⟨rfl, Below.refl _ _⟩
  · exact Any.strings_Join Tryd.join join_extra g 0 c xs ⟨#[32]⟩ w hcell hg (by omega) hc (by show (Lib.join _ [32]).length ≤ _; omega)

theorem txts_next (ts : List Tok) (k : Nat) (h : k < ts.length) : txts (ts.take (k + 1)) = if (ts.getD k tokD).t.size = 0 then txts (ts.take k) else txts (ts.take k) ++ [(ts.getD k tokD).t] := by
  have e : ts.getD k tokD = ts[k] := by simp [List.getD, h]
  rw [e, List.take_add_one, List.getElem?_eq_getElem h]
  unfold txts
  rw [List.filter_append, List.map_append]
  by_cases h0 : ts[k].t.size = 0
  · rw [if_pos h0, show List.filter (fun t : Tok => decide (t.t.size ≠ 0)) (some ts[k]).toList = [] from List.filter_cons_of_neg (by show ¬ decide _ = true; rw [decide_eq_true_eq]; exact fun hh => hh h0)]
    exact List.append_nil _
  · rw [if_neg h0, show List.filter (fun t : Tok => decide (t.t.size ≠ 0)) (some ts[k]).toList = [ts[k]] from List.filter_cons_of_pos (by show decide _ = true; rw [decide_eq_true_eq]; exact h0)]
    rfl
theorem txts_len (ts : List Tok) : (txts ts).length ≤ ts.length := by
  unfold txts
  rw [List.length_map]
  exact List.length_filter_le _ _
set_option maxHeartbeats 4000000 in
set_option maxRecDepth 100000 in
theorem pjoin_any (a : Option Addr) (c : Nat) (ts : List Tok) (w : World) (hn : ts.length ≤ 70000) (hx : Toks w a ts) (j : List UInt8) (hj : Jt ts = j) (hl : j.length ≤ 70000) :
    Calls Tryd.prog 19 #[.slice a ts.length c] w fun e w' => e = .returned (.string ⟨j.toArray⟩) ∧ Below w.heap.size w w' := by
  have Hx := Lib.hid hx
  have hjo := join_J ts
  rw [hj] at hjo
  have Hj := Lib.hid hjo
  obtain ⟨n, hln⟩ : ∃ n, ts.length = n := ⟨_, rfl⟩
  have Hl := Lib.hid hln
  rw [hln] at hn ⊢
  clear hx hln hjo hj
  go_enter Tryd.func19, Tryd.ntmps19
  go_wp2
  go_loopw [3, 8] (fun v x W => ∃ k : Nat, x = .int .i64 k ∧ k ≤ n ∧ OwnS W w.heap.size v (txts (ts.take k)) ∧ Below w.heap.size w W) (fun _ x _ => n - (intOf x).toNat)
  case atStart => exact ⟨0, rfl, Nat.zero_le _, OwnS.nil _ _, Below.refl _ _⟩
  case round =>
    obtain ⟨k, rfl, hk, hown, hb⟩ := hrel
    obtain ⟨a5, c5, rfl⟩ := hown.isSlice
    have Hown := Lib.hid hown
    have Hb := Lib.hid hb
    have hsz := hb.size
    clear hown hb
    by_cases hlt : k < n
    · obtain ⟨b, off, rfl, hcell⟩ := (Hx.out.below Hb.out (Nat.le_refl _)) (by rw [Hl.out]; omega)
      obtain ⟨c0, c1, c2, c3⟩ := hcell k (by rw [Hl.out]; exact hlt)
      have hnext := txts_next ts k (by rw [Hl.out]; exact hlt)
      obtain ⟨⟨tk, ta, tt, tn⟩, ht⟩ : ∃ t, ts.getD k tokD = t := ⟨_, rfl⟩
      rw [ht] at hnext c0 c1 c2 c3
      simp only at hnext c0 c1 c2 c3
      have hlen2 := txts_len (ts.take k)
      rw [List.length_take, Hl.out] at hlen2
      have hlen3 : (txts (ts.take k)).length ≤ 70000 := by omega
      have Hnext := Lib.hid hnext
      clear hcell ht hnext hlen2
      by_cases h0 : tt.size = 0
      · have gE : tt.toList.isEmpty = true := List.isEmpty_iff.mpr ((toList_nil tt).mpr h0)
        have g : (tt.toList != []) = false := by simp; exact (toList_nil tt).mpr h0
        go_wp2
        go_roundw
        case rel => exact ⟨k + 1, by go_num, by omega, by rw [Hnext.out, if_pos h0]; exact OwnS.alloc Hown.out _, Hb.out.alloc hsz _⟩
        case measure => simp [intOf]; omega
      · have gE : tt.toList.isEmpty = false := by
          cases hh : tt.toList.isEmpty with
          | false => rfl
          | true => exact absurd ((toList_nil tt).mp (List.isEmpty_iff.mp hh)) h0
        have g : (tt.toList != []) = true := by
          rw [bne_iff_ne]; intro h; exact h0 ((toList_nil tt).mp h)
        go_wp2_with (at_builtin; refine wpList_append_str rfl _ _ rfl w.heap.size _ (txts (ts.take k)) rfl (OwnS.alloc (OwnS.alloc Hown.out _) _) _ tt rfl (by simp [go_sem]) (by omega) (by simp; omega) ?_; intro v' w5 hown5 hg5; have Hown5 := Lib.hid hown5; have Hb5 := Lib.hid (OwnS.grown (OwnS.alloc Hown.out _) hg5 (Hb.out.alloc hsz _) (by rw [World.size_alloc]; omega)); clear hown5 hg5)
        go_roundw
        case rel => exact ⟨k + 1, by go_num, by omega, by rw [Hnext.out, if_neg h0]; exact Hown5.out, Hb5.out⟩
        case measure => simp [intOf]; omega
    · obtain rfl : k = n := by omega
      have hfull : ts.take k = ts := List.take_of_length_le (by rw [Hl.out]; exact Nat.le_refl _)
      rw [hfull] at Hown
      have hlen2 := txts_len ts
      rw [Hl.out] at hlen2
      go_wp2_with (go_at_call 33; refine (sjoin_at Hown.out (by omega) j Hj.out hl).mono ?_; rintro e w2 ⟨rfl, hb2⟩; have Hb2 := Lib.hid hb2; clear hb2)
      go_ret
      exact ⟨rfl, Hb.out.trans (Hb2.out.mono hsz)⟩

/-! The definition's. -/
theorem foldl_next (ts : List Tok) (k : Nat) (h : k < ts.length) : (ts.take (k + 1)).foldl jst [] = jst ((ts.take k).foldl jst []) (ts.getD k tokD) := by
  have e : ts.getD k tokD = ts[k] := by simp [List.getD, h]
  rw [e, List.take_add_one, List.getElem?_eq_getElem h, List.foldl_append]
  rfl
end Go.Proofs.YtmnfonhfbolnkaaDoor
