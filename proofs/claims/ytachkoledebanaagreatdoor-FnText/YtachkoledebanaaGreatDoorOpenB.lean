/-
  Bytes that came in, opened.
-/
import Derived.Test.YtachkoledebanaaGreatDoorOpen
import Derived.Test.YtachkoledebanaaGreatDoorRows3
namespace Go.Proofs.YtachkoledebanaaGreatDoor
open Go.ChangeShapes Go.WideShapes Go.ChangeAt Go.RowKit Go.Deep Go.Joins

theorem Tryz.uBytes : Tryz.prog.underlying 22 = some (.slice 5) := by kernel_rfl

section
variable {H : Type} {enc : TypeId × Value → H} {w : World} {base : Nat} {held : Bool}

set_option maxRecDepth 100000 in
theorem open_code {r : Reach} {b0 : Nat} {v : Value} {dd : DataW H} {p : List MemPlace} (hv : Value.okWide Tryz.prog w r b0 22 v) (h : DataW.Trod enc Tryz.prog w base (fun _ => true) held 22 v dd p) :
    ∃ (ca : Option Addr) (cc : Nat) (k : Code), v = .slice ca k.n cc ∧ Bytes k ∧ CodeAt w ca k ∧ k.n ≤ 9223372036854775807 := by
  obtain ⟨a, len, cap, rfl⟩ := okWide_slice Tryz.uBytes hv
  obtain ⟨n, h⟩ := h
  rcases open_ints Tryz.uBytes Tryz.underlying5 (by kernel_rfl) h with ⟨hcs, _⟩ | ⟨x, l, c, zs, hcs, _, hl, hm, hz, _, hcell, hwf⟩
  · simp [Value.cells] at hcs
    obtain ⟨rfl, rfl, rfl⟩ := hcs
    exact ⟨Option.none, 0, ⟨0, fun _ => 0⟩, rfl, fun i hi => absurd hi (Nat.not_lt_zero _), SlAt.none _ _ _, by show 0 ≤ _; omega⟩
  · simp [Value.cells] at hcs
    obtain ⟨rfl, rfl, rfl⟩ := hcs
    unfold maxLen at hm
    have hz' : zs.length = cap := by simpa using hz
    refine ⟨some x, cap, ⟨len, fun i => zs.getD i 0⟩, rfl, fun i hi => ?_, SlAt.ofAdd (cap := zs.length) (by show len ≤ _; omega) hcell, by show len ≤ _; omega⟩
    have hi' : i < zs.length := by have : i < len := hi; omega
    have hw := hwf (zs.getD i 0) (by simp [List.getD, List.getElem?_eq_getElem hi'])
    show 0 ≤ zs.getD i 0 ∧ zs.getD i 0 ≤ 255
    generalize zs.getD i 0 = y at hw
    simp [Lit.wf, IntKind.min, IntKind.max, IntKind.signed, IntKind.bits] at hw
    omega

end

end Go.Proofs.YtachkoledebanaaGreatDoor
