/-
  What the row's list of variables gives of the aspects' words.
-/
import Derived.Test.YtachkoledebanabGreatDoorAn2
import Derived.Test.YtachkoledebanabGreatDoorLof
namespace Go.Proofs.YtachkoledebanabGreatDoor
open Go.ChangeShapes Go.WideShapes Go.ChangeAt Go.RowKit

theorem gAw : Tryz.prog.globalNamed "loop.example/aspect/impl.aspectWords" = some 3 := by kernel_rfl
theorem gAwType : (Tryz.prog.globals[3]?).map (·.type) = some 95 := by kernel_rfl
/-- a table of texts, cell for cell -/
theorem cells_of_texts {H : Type} {enc : TypeId × Value → H} {P : Program} {w : World} {base : Nat} {sp : Nat → Bool} {held : Bool} {fuel : Nat} {t e : TypeId} {n : Nat} {cs : List Value} {zs : List (List UInt8)} {p : List MemPlace}
    (ht : P.underlying t = some (.array n e)) (he : P.underlying e = some .string) (hce : P.cellsOf e = 1) (hct : P.cellsOf t = n)
    (h : DataW.trod enc P w base sp held fuel t cs = some (.agg (zs.map fun z => .lit (.string z)), p)) : cs = zs.map fun z => Value.string (bs z) := by
  cases fuel with
  | zero => simp [DataW.trod] at h
  | succ fuel =>
    simp only [DataW.trod, ht, hce, hct, Nat.mul_one] at h
    split at h
    · obtain ⟨xs, hm, hx⟩ := Option.map_eq_some_iff.1 h
      have hxs : xs.map (·.1) = zs.map fun z => (DataW.lit (.string z) : DataW H) := by
        have := congrArg Prod.fst hx
        simpa using this
      have hxl : xs.length = n := by simpa using Lib.mapM_length hm
      have hzl : zs.length = n := by
        have := congrArg List.length hxs
        simp at this
        omega
      apply List.ext_getElem?
      intro i
      by_cases hi : i < n
      · obtain ⟨b, hb, hf⟩ := Lib.mapM_at hm i i (by simp [hi])
        obtain ⟨z, hc, rfl, _⟩ := DataW.trod_string he hf
        have h1 : cs[i]? = some (.string z) := by
          have := congrArg (·[0]?) hc
          simpa [List.getElem?_take, List.getElem?_drop] using this
        have h2 : (xs.map (·.1))[i]? = some (DataW.lit (.string z.data.toList) : DataW H) := by simp [hb]
        rw [hxs] at h2
        simp only [List.getElem?_map, Option.map_eq_some_iff, DataW.lit.injEq, Lit.string.injEq] at h2
        obtain ⟨z', hz', e'⟩ := h2
        rw [h1]
        simp only [List.getElem?_map, hz', Option.map_some]
        rw [e']
        simp [bs]
      · rename_i hl
        rw [List.getElem?_eq_none (by omega), List.getElem?_eq_none (by simp; omega)]
    · cases h

theorem names_of {r : List (String × DataW Unit)} {W : World} (h : laidMet Tryz.prog (("loop.example/aspect/impl.aspectWords", Rows.laid_loop_example_aspect_impl_aspectWords) :: r) W) : Names W := by
  obtain ⟨ps, ⟨g', t', cs, fuel, p, q, hg', ht', hvar, hd, _, _⟩, _⟩ := h
  obtain rfl := Option.some.inj (gAw.symm.trans hg')
  obtain rfl := Option.some.inj (gAwType.symm.trans ht')
  have hcs := cells_of_texts (zs := [[100, 97, 114, 107], [115, 116, 111, 112], [115, 108, 111, 119], [110, 101, 97, 114], [102, 114, 101, 101]]) Tryz.underlying95 Tryz.underlying9 cellsStr (by kernel_rfl) hd
  have hcs' : cs = #[.string (bs [100, 97, 114, 107]), .string (bs [115, 116, 111, 112]), .string (bs [115, 108, 111, 119]), .string (bs [110, 101, 97, 114]), .string (bs [102, 114, 101, 101])] := by
    cases cs
    simpa using hcs
  intro i hi
  have hc := World.var?_cell gAw hvar i
  rw [hc, hcs']
  obtain rfl | rfl | rfl | rfl | rfl : i = 0 ∨ i = 1 ∨ i = 2 ∨ i = 3 ∨ i = 4 := by omega
  all_goals rfl

end Go.Proofs.YtachkoledebanabGreatDoor
