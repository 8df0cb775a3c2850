/-
  A row that came in, opened: its four slices, and what lies behind them.
-/
import Derived.Test.YtachkoledebanabGreatDoorSz
import Derived.ProofKit
import Derived.OpenShut
import Derived.ShutString
import Derived.ChangeOld
import Derived.Deep.Grids
import Derived.Lib.SmallJoins
namespace Go.Proofs.YtachkoledebanabGreatDoor
open Go.ChangeShapes Go.WideShapes Go.ChangeAt Go.RowKit Go.Deep Go.Joins

theorem Tryz.own : ownKnob Tryz.prog.godebug = none := by kernel_rfl
theorem Tryz.laidOut : laidOutB Tryz.prog = true := by kernel_rfl

theorem SlAt.ofAdd {w : World} {a : Addr} {n cap : Nat} {f : Nat → Value} (hl : n ≤ cap) (h : ∀ i, i < cap → w.cell? (a.add i) = some (f i)) : SlAt w (some a) n f := by
  intro k hk
  have h0 := h 0 (by omega)
  obtain ⟨b, o, spot⟩ := a
  have hspot : spot = none := by simpa [Addr.add] using World.cell?_spot h0
  subst hspot
  refine ⟨b, o, rfl, ?_⟩
  have hk := h k (by omega)
  by_cases e : k = 0
  · subst e; simpa [Addr.add] using hk
  · simpa [Addr.add, e] using hk

theorem SlAt.none (w : World) (ao : Option Addr) (f : Nat → Value) : SlAt w ao 0 f := fun _ hk => absurd hk (Nat.not_lt_zero _)

section
variable {H : Type} {enc : TypeId × Value → H} {w : World} {base : Nat} {held : Bool}

theorem open_il {n : Nat} {v : Value} {y : DataW H × List MemPlace} (h : DataW.trod enc Tryz.prog w base (fun _ => true) held n 22 [v] = some y) :
    ∃ (a : Option Addr) (len cap : Nat) (f : Nat → Int), v = .slice a len cap ∧ len ≤ 9223372036854775807 ∧ SlAt w a len (fun k => .int .i64 (f k)) := by
  rcases open_ints Tryz.uInts Tryz.underlying3 (by kernel_rfl) h with ⟨hcs, _⟩ | ⟨x, l, c, zs, hcs, _, hl, hm, hz, _, hcell, _⟩
  · simp at hcs
    exact ⟨Option.none, 0, 0, fun _ => 0, hcs, by omega, SlAt.none _ _ _⟩
  · simp at hcs
    unfold maxLen at hm
    have hz' : zs.length = c := by simpa using hz
    exact ⟨some x, l, c, fun i => zs.getD i 0, hcs, by omega, SlAt.ofAdd (cap := zs.length) (by omega) hcell⟩

theorem open_bl {n : Nat} {v : Value} {y : DataW H × List MemPlace} (h : DataW.trod enc Tryz.prog w base (fun _ => true) held n 23 [v] = some y) :
    ∃ (a : Option Addr) (len cap : Nat) (f : Nat → Bool), v = .slice a len cap ∧ len ≤ 9223372036854775807 ∧ SlAt w a len (fun k => .bool (f k)) := by
  rcases open_bools Tryz.uBools Tryz.underlying4 (by kernel_rfl) h with ⟨hcs, _⟩ | ⟨x, l, c, B, hcs, _, hl, hm, _, hcell⟩
  · simp at hcs
    exact ⟨Option.none, 0, 0, fun _ => false, hcs, by omega, SlAt.none _ _ _⟩
  · simp at hcs
    unfold maxLen at hm
    exact ⟨some x, l, c, B, hcs, by omega, SlAt.ofAdd hl hcell⟩

theorem open_bll {n : Nat} {v : Value} {y : DataW H × List MemPlace} (h : DataW.trod enc Tryz.prog w base (fun _ => true) held n 24 [v] = some y) :
    ∃ (a : Option Addr) (len cap : Nat) (A : Nat → Option Addr) (L C : Nat → Nat) (g : Nat → Nat → Bool), v = .slice a len cap ∧ len ≤ 9223372036854775807 ∧ (∀ i, i < len → L i ≤ 9223372036854775807) ∧
      SlAt w a len (fun i => .slice (A i) (L i) (C i)) ∧ ∀ i, i < len → SlAt w (A i) (L i) (fun j => .bool (g i j)) := by
  rcases open_bool_rows Tryz.uBoolss Tryz.uBools Tryz.underlying4 (by kernel_rfl) (by kernel_rfl) h with ⟨hcs, _⟩ | ⟨x, l, c, A, L, C, B, hcs, _, hl, hm, _, hrow⟩
  · simp at hcs
    exact ⟨Option.none, 0, 0, fun _ => Option.none, fun _ => 0, fun _ => 0, fun _ _ => false, hcs, by omega, fun i hi => absurd hi (Nat.not_lt_zero _), SlAt.none _ _ _, fun i hi => absurd hi (Nat.not_lt_zero _)⟩
  · simp at hcs
    unfold maxLen at hm hrow
    refine ⟨some x, l, c, A, L, C, B, hcs, by omega, fun i hi => ?_, SlAt.ofAdd hl (fun i hi => (hrow i hi).1), fun i hi => ?_⟩
    · obtain ⟨_, h1, h2, _⟩ := hrow i (by omega)
      omega
    · obtain ⟨_, h1, h2, h3, h4⟩ := hrow i (by omega)
      cases hA : A i with
      | none =>
        have := h3 hA
        have hz : L i = 0 := by omega
        rw [hz]
        exact SlAt.none _ _ _
      | some a' => exact SlAt.ofAdd h1 (h4 a' hA).2

end

end Go.Proofs.YtachkoledebanabGreatDoor
