/-
  How a text comes in; the tables as their initialisers lay them; the world of the witness.
-/
import Derived.Test.YtmnfonhfbolnkaaDoorLOne
import Derived.Test.YtmnfonhfbolnkaaDoorCards
import Derived.Test.YtmnfonhfbolnkaaDoorTie
import Derived.ProofKit
import Derived.OpenShut
import Derived.Deep.DeepHandedRow
import Derived.Deep.DeepLaidRun
import Derived.Lib.LaidTab
import Derived.Stop.LaidErr
import Derived.SizedLaws
import Derived.ChangeMaps5
namespace Go.Proofs.YtmnfonhfbolnkaaDoor
open Go.ChangeShapes Go.WideShapes Go.ChangeAt Go.RowKit
set_option linter.unusedVariables false

theorem own : ownKnob Tryd.prog.godebug = none := by kernel_rfl
theorem laidOut : laidOutB Tryd.prog = true := by kernel_rfl

/-- An array of strings that reads as the listed ones holds them, cell for cell. -/
theorem cells_of_strs {H : Type} {enc : TypeId × Value → H} {P : Program} {w : World} {base : Nat} {sp : Nat → Bool} {held : Bool} {fuel : Nat} {t e : TypeId} {n : Nat} {cs : List Value} {zs : List (List UInt8)} {p : List MemPlace}
    (ht : P.underlying t = some (.array n e)) (he : P.underlying e = some .string) (hce : P.cellsOf e = 1) (hct : P.cellsOf t = n)
    (h : DataW.trod enc P w base sp held fuel t cs = some (.agg (zs.map fun z => .lit (.string z)), p)) : cs = zs.map fun z => Value.string ⟨z.toArray⟩ := by
  cases fuel with
  | zero => simp [DataW.trod] at h
  | succ fuel =>
    simp only [DataW.trod, ht, hce, hct, Nat.mul_one] at h
    split at h
    · rename_i hl
      obtain ⟨xs, hm, hx⟩ := Option.map_eq_some_iff.1 h
      have hxs : xs.map (·.1) = zs.map fun z => (DataW.lit (.string z) : DataW H) := by
        have := congrArg Prod.fst hx
        simpa using this
      have hxl : xs.length = n := by simpa using Lib.mapM_length hm
      have hzl : zs.length = n := by
        have := congrArg List.length hxs
        simp at this
        omega
      apply List.ext_getElem?
      intro i
      by_cases hi : i < n
      · obtain ⟨b, hb, hf⟩ := Lib.mapM_at hm i i (by simp [hi])
        obtain ⟨z, hc, rfl, _⟩ := DataW.trod_string he hf
        have h1 : cs[i]? = some (.string z) := by
          have := congrArg (·[0]?) hc
          simpa [List.getElem?_take, List.getElem?_drop] using this
        have h2 : (xs.map (·.1))[i]? = some (DataW.lit (.string z.data.toList) : DataW H) := by simp [hb]
        rw [hxs] at h2
        simp only [List.getElem?_map, Option.map_eq_some_iff, DataW.lit.injEq, Lit.string.injEq] at h2
        obtain ⟨z', hz', e2⟩ := h2
        subst e2
        simp [h1, hz']
      · rw [List.getElem?_eq_none (by omega), List.getElem?_eq_none (by simp; omega)]
    · cases h
theorem strs_head {P : Program} {W : World} {name : String} {zs : List (List UInt8)} {rest : List (String × DataW Unit)} {g : Nat} {t e : TypeId} {n : Nat}
    (hg : P.globalNamed name = some g) (hty : (P.globals[g]?).map (·.type) = some t) (ht : P.underlying t = some (.array n e)) (he : P.underlying e = some .string) (hce : P.cellsOf e = 1) (hct : P.cellsOf t = n)
    (h : laidMet P ((name, .agg (zs.map fun z => .lit (.string z))) :: rest) W) : ∀ i, i < zs.length → W.cell? ⟨g, i, none⟩ = some (.string ⟨(zs.getD i []).toArray⟩) := by
  obtain ⟨ps, ⟨g', t', cs, fuel, p, q, hg', ht', hvar, hd, _, _⟩, _⟩ := h
  obtain rfl := Option.some.inj (hg.symm.trans hg')
  obtain rfl := Option.some.inj (hty.symm.trans ht')
  intro i hi
  have := World.var?_cell hg hvar i
  have hc := cells_of_strs ht he hce hct hd
  rw [this]
  have e1 : cs[i]? = cs.toList[i]? := by simp
  rw [e1, hc]
  simp [hi]

def laidL : List (String × DataW Unit) := Rows.lexTokensRow.laid
theorem gKw : Tryd.prog.globalNamed "dataflow/lex.keywords" = some 0 := by kernel_rfl
theorem gKwType : (Tryd.prog.globals[0]?).map (·.type) = some 62 := by kernel_rfl
theorem gMk : Tryd.prog.globalNamed "dataflow/lex.marks" = some 1 := by kernel_rfl
theorem gMkType : (Tryd.prog.globals[1]?).map (·.type) = some 63 := by kernel_rfl
theorem cells17 : Tryd.prog.cellsOf 62 = 17 := by kernel_rfl
theorem cells15 : Tryd.prog.cellsOf 63 = 15 := by kernel_rfl
theorem cellsStr : Tryd.prog.cellsOf 9 = 1 := by kernel_rfl
theorem gEr : Tryd.prog.globalNamed "strconv.ErrRange" = some 4 := by kernel_rfl
theorem gErType : (Tryd.prog.globals[4]?).map (·.type) = some 56 := by kernel_rfl
theorem starErr : "*" ++ "errors.errorString" = "*errors.errorString" := by decide
theorem rowErr (u : TypeId) (h : Tryd.prog.typeName? 3 u = some "*errors.errorString") : u = 87 :=
  typeName_ptr_named (nm := "errors.errorString") (by rw [starErr]; kernel_rfl) (by kernel_rfl) (by decide) u (by rw [starErr]; exact h)
theorem cellsErr : Tryd.prog.cellsOf 89 = 1 := by kernel_rfl
def kwL : List (List UInt8) := kwB.map fun x => x.data.toList
def mkL : List (List UInt8) := marksB.map fun x => x.data.toList
theorem at_map (l : List ByteArray) (j : Nat) (h : j < l.length) : (⟨((l.map fun x => x.data.toList).getD j []).toArray⟩ : ByteArray) = l[j]'h := by
  rw [List.getD_eq_getElem?_getD, List.getElem?_map, List.getElem?_eq_getElem h]
  rfl
theorem tabs_of {W : World} (h : laidMetH Tryd.prog laidL W) : Tabs W := by
  have h0 : laidMet Tryd.prog laidL W := h
  have h4 := h0.tail.tail.tail
  have h6 := h4.tail.tail
  have h7 := h6.tail
  have h6' : laidMet Tryd.prog (("dataflow/lex.keywords", .agg (kwL.map fun z => .lit (.string z))) :: [("dataflow/lex.marks", Rows.laid_dataflow_lex_marks)]) W := h6
  have h7' : laidMet Tryd.prog (("dataflow/lex.marks", .agg (mkL.map fun z => .lit (.string z))) :: []) W := h7
  have hk := strs_head gKw gKwType Tryd.underlying62 Tryd.underlying9 cellsStr cells17 h6'
  have hm := strs_head gMk gMkType Tryd.underlying63 Tryd.underlying9 cellsStr cells15 h7'
  obtain ⟨a0, s0, hv0, _, _, _⟩ := laid_sentinel h4 gEr gErType Tryd.underlying56 rowErr Tryd.underlying87 Tryd.underlying89 rfl rfl Tryd.underlying9 cellsErr cellsStr
  have he := World.var?_cell gEr hv0 0
  simp at he
  have kk : ∀ j (hj : j < 17), W.cell? ⟨0, j, none⟩ = some (.string (kwB[j]'hj)) := fun j hj => by
    rw [hk j hj]; exact congrArg (fun x => some (Value.string x)) (at_map kwB j hj)
  have mm : ∀ j (hj : j < 15), W.cell? ⟨1, j, none⟩ = some (.string (marksB[j]'hj)) := fun j hj => by
    rw [hm j hj]; exact congrArg (fun x => some (Value.string x)) (at_map marksB j hj)
  exact ⟨⟨mm, World.block_lt_of_cell? W _ (mm 0 (by decide))⟩, ⟨kk, World.block_lt_of_cell? W _ (kk 0 (by decide))⟩, ⟨_, he, .inr ⟨_, _, rfl⟩, World.block_lt_of_cell? W _ he⟩⟩

/-- The cells of a listed table. -/
def litCells : DataW Unit → List Value
  | .agg l => l.filterMap fun x => match x with
    | .lit (.int k z) => some (.int k z)
    | .lit (.string s) => some (.string ⟨s.toArray⟩)
    | _ => Option.none
  | _ => []
noncomputable def low : Nat := (World.holding Tryd.prog default ⟨#[], #[], []⟩).heap.size
def putG (h : Array Obj) (g : Nat) (cs : Array Value) : Array Obj := h.modify g fun
  | .cells _ t frozen => .cells cs t frozen
  | o => o
/-- A world for the witness: the settled one, each variable holding what its initialiser lays. -/
noncomputable def laidWorld (os : Os) : World :=
  let w0 := World.holding Tryd.prog os ⟨#[.cells #[.string ⟨#[118, 97, 108, 117, 101, 32, 111, 117, 116, 32, 111, 102, 32, 114, 97, 110, 103, 101]⟩] 89, .cells #[.string ⟨#[105, 110, 118, 97, 108, 105, 100, 32, 115, 121, 110, 116, 97, 120]⟩] 89], #[], []⟩
  let h1 := putG w0.heap 0 (litCells Rows.laid_dataflow_lex_keywords).toArray
  let h2 := putG h1 1 (litCells Rows.laid_dataflow_lex_marks).toArray
  let h3 := putG h2 5 (litCells Rows.laid_internal_strconv_uint64pow10).toArray
  let h4 := putG h3 6 (litCells Rows.laid_math_bits_deBruijn32tab).toArray
  let h5 := putG h4 7 (litCells Rows.laid_math_bits_deBruijn64tab).toArray
  let h6 := putG h5 4 #[.iface 87 (.pointer (some ⟨low, 0, none⟩))]
  let h7 := putG h6 3 #[.iface 87 (.pointer (some ⟨low + 1, 0, none⟩))]
  { w0 with heap := h7 }
theorem laid_met (os : Os) (args : Array Value) : laidMet Tryd.prog laidL ((laidWorld os).forCall (fun _ _ => 0) ⟨#[], args, []⟩).memory :=
  laidMet_of_run3 8 (by kernel_rfl) (by kernel_rfl) (by kernel_rfl)

theorem open_text {H : Type} {enc : TypeId × Value → H} {W : World} {bs : Nat} {v : Value} {d : DataW H} {p : List MemPlace}
    (hok : Value.okWide Tryd.prog W .any bs 9 v) (h : DataW.Trod enc Tryd.prog W 0 (fun _ => true) true 9 v d p) :
    ∃ s : ByteArray, v = .string s ∧ d = .lit (.string s.data.toList) ∧ p = [] ∧ s.size ≤ maxLen := Go.ChangeMaps.open_string Tryd.underlying9 hok h
theorem shut_text {H : Type} {enc : TypeId × Value → H} {W : World} {base : Nat} {sp : Nat → Bool} {held : Bool} {s : ByteArray} (hs : s.size ≤ maxLen) : DataW.Trod enc Tryd.prog W base sp held 9 (.string s) (.lit (.string s.data.toList)) [] :=
  Go.ChangeMaps.shut_string Tryd.underlying9 hs
end Go.Proofs.YtmnfonhfbolnkaaDoor
