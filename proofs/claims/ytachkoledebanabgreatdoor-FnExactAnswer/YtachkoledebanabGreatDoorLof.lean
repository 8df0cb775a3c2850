/-
  What the row's list of variables gives.
-/
import Derived.Test.YtachkoledebanabGreatDoorAn2
import Derived.Test.YtachkoledebanabGreatDoorOpen
import Derived.Test.YtachkoledebanabGreatDoorCards
import Derived.Test.YtachkoledebanabGreatDoorTie
import Derived.Deep.DeepHandedRow
import Derived.Deep.DeepWitnessRowRef
import Derived.Lib.LaidTab
import Derived.LaidMore
import Derived.LaidHandle
import Derived.Stop.LaidTwo
import Derived.Stop.LaidErr
import Derived.OpenVars
import Derived.Shelf.Vars
namespace Go.Proofs.YtachkoledebanabGreatDoor
open Go.ChangeShapes Go.WideShapes Go.ChangeAt Go.RowKit

theorem gTab : Tryz.prog.globalNamed "internal/strconv.uint64pow10" = some 4 := by kernel_rfl
theorem gTabType : (Tryz.prog.globals[4]?).map (·.type) = some 149 := by kernel_rfl
theorem cellsTab : Tryz.prog.cellsOf 149 = 20 := by kernel_rfl
theorem cellsU64 : Tryz.prog.cellsOf 135 = 1 := by kernel_rfl
theorem cellsEs : Tryz.prog.cellsOf 176 = 1 := by kernel_rfl
theorem cellsStr : Tryz.prog.cellsOf 9 = 1 := by kernel_rfl
theorem gRng : Tryz.prog.globalNamed "strconv.ErrRange" = some 9 := by kernel_rfl
theorem gRngType : (Tryz.prog.globals[9]?).map (·.type) = some 38 := by kernel_rfl
theorem gSyn : Tryz.prog.globalNamed "strconv.ErrSyntax" = some 8 := by kernel_rfl
theorem gSynType : (Tryz.prog.globals[8]?).map (·.type) = some 38 := by kernel_rfl
theorem gTl : Tryz.prog.globalNamed "loop.example/aspect/impl.errTooLong" = some 0 := by kernel_rfl
theorem gTlType : (Tryz.prog.globals[0]?).map (·.type) = some 38 := by kernel_rfl
theorem gWr : Tryz.prog.globalNamed "loop.example/aspect/impl.errWrongRow" = some 1 := by kernel_rfl
theorem gWrType : (Tryz.prog.globals[1]?).map (·.type) = some 38 := by kernel_rfl
theorem gAw : Tryz.prog.globalNamed "loop.example/aspect/impl.aspectWords" = some 3 := by kernel_rfl
theorem gAwType : (Tryz.prog.globals[3]?).map (·.type) = some 95 := by kernel_rfl
theorem gEt : Tryz.prog.globalNamed "errors.errorType" = some 2 := by kernel_rfl
theorem rtRow : (Tryz.prog.cutTypes.find? (·.1 == "internal/reflectlite.rtype")).map (·.2) = some 103 := by kernel_rfl
theorem oneRow : ((List.range 204).filter fun t => Tryz.prog.rowNamed t [101, 114, 114, 111, 114]) = [38] := by kernel_rfl
theorem typesN : Tryz.prog.types.size = 204 := by kernel_rfl
theorem starEs : "*" ++ "errors.errorString" = "*errors.errorString" := by decide
theorem esRow (u : TypeId) (h : Tryz.prog.typeName? 3 u = some "*errors.errorString") : u = 174 :=
  typeName_ptr_named (nm := "errors.errorString") (by rw [starEs]; kernel_rfl) (by kernel_rfl) (by decide) u (by rw [starEs]; exact h)

/-- a table of texts, cell for cell -/
theorem cells_of_texts {H : Type} {enc : TypeId × Value → H} {P : Program} {w : World} {base : Nat} {sp : Nat → Bool} {held : Bool} {fuel : Nat} {t e : TypeId} {n : Nat} {cs : List Value} {zs : List (List UInt8)} {p : List MemPlace}
    (ht : P.underlying t = some (.array n e)) (he : P.underlying e = some .string) (hce : P.cellsOf e = 1) (hct : P.cellsOf t = n)
    (h : DataW.trod enc P w base sp held fuel t cs = some (.agg (zs.map fun z => .lit (.string z)), p)) : cs = zs.map fun z => Value.string (bs z) := by
  cases fuel with
  | zero => simp [DataW.trod] at h
  | succ fuel =>
    simp only [DataW.trod, ht, hce, hct, Nat.mul_one] at h
    split at h
    · obtain ⟨xs, hm, hx⟩ := Option.map_eq_some_iff.1 h
      have hxs : xs.map (·.1) = zs.map fun z => (DataW.lit (.string z) : DataW H) := by
        have := congrArg Prod.fst hx
        simpa using this
      have hxl : xs.length = n := by simpa using Lib.mapM_length hm
      have hzl : zs.length = n := by
        have := congrArg List.length hxs
        simp at this
        omega
      apply List.ext_getElem?
      intro i
      by_cases hi : i < n
      · obtain ⟨b, hb, hf⟩ := Lib.mapM_at hm i i (by simp [hi])
        obtain ⟨z, hc, rfl, _⟩ := DataW.trod_string he hf
        have h1 : cs[i]? = some (.string z) := by
          have := congrArg (·[0]?) hc
          simpa [List.getElem?_take, List.getElem?_drop] using this
        have h2 : (xs.map (·.1))[i]? = some (DataW.lit (.string z.data.toList) : DataW H) := by simp [hb]
        rw [hxs] at h2
        simp only [List.getElem?_map, Option.map_eq_some_iff, DataW.lit.injEq, Lit.string.injEq] at h2
        obtain ⟨z', hz', e'⟩ := h2
        rw [h1]
        simp only [List.getElem?_map, hz', Option.map_some]
        rw [e']
        simp [bs]
      · rename_i hl
        rw [List.getElem?_eq_none (by omega), List.getElem?_eq_none (by simp; omega)]
    · cases h

theorem laid_of {r : List (String × DataW Unit)} {W : World} (h1 : laidMet Tryz.prog (("math/bits.deBruijn32tab", Rows.laid_math_bits_deBruijn32tab) :: ("math/bits.deBruijn64tab", Rows.laid_math_bits_deBruijn64tab) :: ("internal/strconv.uint64pow10", Rows.laid_internal_strconv_uint64pow10) :: ("strconv.ErrRange", Rows.laid_strconv_ErrRange) :: ("strconv.ErrSyntax", Rows.laid_strconv_ErrSyntax) :: ("loop.example/aspect/impl.errTooLong", Rows.laid_loop_example_aspect_impl_errTooLong) :: ("loop.example/aspect/impl.errWrongRow", Rows.laid_loop_example_aspect_impl_errWrongRow) :: r) W)
    (h2 : handlesMet Tryz.prog [("errors.errorType", Rows.laid_errors_errorType)] W) (hS : W.ShapedOpen Tryz.prog) : Laid W := by
  have t3 := h1.tail.tail
  have t4 := t3.tail
  have t5 := t4.tail
  have t6 := t5.tail
  have hTab : Tab W := Lib.tabIs_of_head (k := .u64) (zs := Lib.pow10Tab) gTab gTabType Tryz.underlying149 Tryz.underlying135 cellsU64 cellsTab t3
  obtain ⟨a4, s4, hv4, -⟩ := laid_sentinel t4 gRng gRngType Tryz.underlying38 esRow Tryz.underlying174 Tryz.underlying176 rfl rfl Tryz.underlying9 cellsEs cellsStr
  obtain ⟨a5, s5, hv5, -⟩ := laid_sentinel t5 gSyn gSynType Tryz.underlying38 esRow Tryz.underlying174 Tryz.underlying176 rfl rfl Tryz.underlying9 cellsEs cellsStr
  obtain ⟨a0, a1, s0, s1, c0, c1, y0, y1, hv0, hv1, hc0, hs0, hz0, hc1, hs1, hz1, hne, hb0, hb1⟩ := laid_sentinels2 t6 gTl gTlType gWr gWrType Tryz.underlying38 esRow Tryz.underlying174 Tryz.underlying176 rfl rfl Tryz.underlying9 cellsEs cellsStr
  have hmx : ∃ m, W.cell? ⟨5, 0, none⟩ = some (.int .i64 m) := cell_of_shapedOpen_int (zero := #[.int .i64 0]) (t := 3) hS (of_decide_eq_true (by kernel_rfl)) (by kernel_rfl) rfl (by kernel_rfl) (by kernel_rfl) Tryz.underlying3
  have het : W.cell? ⟨2, 0, none⟩ = some (.iface 103 (.agg #[.pointer (some ⟨10, 38, none⟩)])) := by
    obtain ⟨name, u, ty, e1, e2, e3, e4, e5⟩ := h2 _ (List.mem_singleton.2 rfl)
    have en : name = [101, 114, 114, 111, 114] := (Option.some.inj e1).symm
    subst en
    obtain rfl := Option.some.inj (rtRow.symm.trans e2)
    have hm : ty ∈ (List.range 204).filter fun t => Tryz.prog.rowNamed t [101, 114, 114, 111, 114] := List.mem_filter.2 ⟨List.mem_range.2 (by rw [← typesN]; exact e3), e4⟩
    rw [oneRow] at hm
    obtain rfl := List.mem_singleton.1 hm
    have hh : typeHandle Tryz.prog 38 = .pointer (some ⟨10, 38, none⟩) := by kernel_rfl
    rw [hh] at e5
    simpa using World.var?_cell gEt e5 0
  exact ⟨hTab, hmx, ⟨_, _, hv5⟩, ⟨_, _, hv4⟩, het, ⟨a0, a1, by simpa using World.var?_cell gTl hv0 0, by simpa using World.var?_cell gWr hv1 0, hne, ⟨c0, y0, hb0⟩, ⟨c1, y1, hb1⟩⟩⟩

theorem names_of {r : List (String × DataW Unit)} {W : World} (h : laidMet Tryz.prog (("loop.example/aspect/impl.aspectWords", Rows.laid_loop_example_aspect_impl_aspectWords) :: r) W) : Names W := by
  obtain ⟨ps, ⟨g', t', cs, fuel, p, q, hg', ht', hvar, hd, _, _⟩, _⟩ := h
  obtain rfl := Option.some.inj (gAw.symm.trans hg')
  obtain rfl := Option.some.inj (gAwType.symm.trans ht')
  have hcs := cells_of_texts (zs := [[100, 97, 114, 107], [115, 116, 111, 112], [115, 108, 111, 119], [110, 101, 97, 114], [102, 114, 101, 101]]) Tryz.underlying95 Tryz.underlying9 cellsStr (by kernel_rfl) hd
  have hcs' : cs = #[.string (bs [100, 97, 114, 107]), .string (bs [115, 116, 111, 112]), .string (bs [115, 108, 111, 119]), .string (bs [110, 101, 97, 114]), .string (bs [102, 114, 101, 101])] := by
    cases cs
    simpa using hcs
  intro i hi
  have hc := World.var?_cell gAw hvar i
  rw [hc, hcs']
  obtain rfl | rfl | rfl | rfl | rfl : i = 0 ∨ i = 1 ∨ i = 2 ∨ i = 3 ∨ i = 4 := by omega
  all_goals rfl

theorem vars_cons {H : Type} {enc : TypeId × Value → H} {w : World} {sp : Nat → Bool} {n : String} {ns : List String} {gs : List (DataW H)} {ps : List MemPlace} (h : DataW.TrodVars enc Tryz.prog w sp (n :: ns) gs ps) : ∃ g gs' ps', gs = g :: gs' ∧ DataW.TrodVars enc Tryz.prog w sp ns gs' ps' := by
  cases gs with
  | nil => exact h.elim
  | cons g gs' =>
    obtain ⟨_, _, _, _, _, q, _, _, _, _, hs, _⟩ := h
    exact ⟨g, gs', q, rfl, hs⟩
theorem vars_two {H : Type} {enc : TypeId × Value → H} {w : World} {sp : Nat → Bool} {n1 n2 : String} {gs : List (DataW H)} {ps : List MemPlace} (h : DataW.TrodVars enc Tryz.prog w sp [n1, n2] gs ps) : ∃ g1 g2, gs = [g1, g2] := by
  obtain ⟨g1, gs1, p1, e1, h1⟩ := vars_cons h
  obtain ⟨g2, gs2, p2, e2, h2⟩ := vars_cons h1
  obtain ⟨e3, _⟩ := trodVars_none h2
  exact ⟨g1, g2, by rw [e1, e2, e3]⟩
theorem vars_three {H : Type} {enc : TypeId × Value → H} {w : World} {sp : Nat → Bool} {n1 n2 n3 : String} {gs : List (DataW H)} {ps : List MemPlace} (h : DataW.TrodVars enc Tryz.prog w sp [n1, n2, n3] gs ps) : ∃ g1 g2 g3, gs = [g1, g2, g3] := by
  obtain ⟨g1, gs1, p1, e1, h1⟩ := vars_cons h
  obtain ⟨g2, g3, e2⟩ := vars_two h1
  exact ⟨g1, g2, g3, by rw [e1, e2]⟩

end Go.Proofs.YtachkoledebanabGreatDoor
