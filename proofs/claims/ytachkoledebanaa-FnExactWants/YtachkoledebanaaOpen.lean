/-
  A row that came in, opened: its four slices, and what lies behind them.
-/
import Derived.Test.YtachkoledebanaaSz
import Derived.ProofKit
import Derived.OpenShut
import Derived.ShutString
import Derived.ChangeOld
import Derived.Deep.Grids
import Derived.Lib.SmallJoins
namespace Go.Proofs.Ytachkoledebanaa
open Go.ChangeShapes Go.WideShapes Go.ChangeAt Go.RowKit Go.Deep Go.Joins

theorem Try.own : ownKnob Try.prog.godebug = none := by kernel_rfl
theorem Try.laidOut : laidOutB Try.prog = true := by kernel_rfl

theorem SlAt.ofAdd {w : World} {a : Addr} {n cap : Nat} {f : Nat → Value} (hl : n ≤ cap) (h : ∀ i, i < cap → w.cell? (a.add i) = some (f i)) : SlAt w (some a) n f := by
  intro k hk
  have h0 := h 0 (by omega)
  obtain ⟨b, o, spot⟩ := a
  have hspot : spot = none := by simpa [Addr.add] using World.cell?_spot h0
  subst hspot
  refine ⟨b, o, rfl, ?_⟩
  have hk := h k (by omega)
  by_cases e : k = 0
  · subst e; simpa [Addr.add] using hk
  · simpa [Addr.add, e] using hk

theorem SlAt.none (w : World) (ao : Option Addr) (f : Nat → Value) : SlAt w ao 0 f := fun _ hk => absurd hk (Nat.not_lt_zero _)

section
variable {H : Type} {enc : TypeId × Value → H} {w : World} {base : Nat} {held : Bool}

theorem open_il {n : Nat} {v : Value} {y : DataW H × List MemPlace} (h : DataW.trod enc Try.prog w base (fun _ => true) held n 23 [v] = some y) :
    ∃ (a : Option Addr) (len cap : Nat) (f : Nat → Int), v = .slice a len cap ∧ len ≤ 9223372036854775807 ∧ SlAt w a len (fun k => .int .i64 (f k)) := by
  rcases open_ints Try.uInts Try.underlying3 (by kernel_rfl) h with ⟨hcs, _⟩ | ⟨x, l, c, zs, hcs, _, hl, hm, hz, _, hcell, _⟩
  · simp at hcs
    exact ⟨Option.none, 0, 0, fun _ => 0, hcs, by omega, SlAt.none _ _ _⟩
  · simp at hcs
    unfold maxLen at hm
    have hz' : zs.length = c := by simpa using hz
    exact ⟨some x, l, c, fun i => zs.getD i 0, hcs, by omega, SlAt.ofAdd (cap := zs.length) (by omega) hcell⟩

theorem open_bl {n : Nat} {v : Value} {y : DataW H × List MemPlace} (h : DataW.trod enc Try.prog w base (fun _ => true) held n 24 [v] = some y) :
    ∃ (a : Option Addr) (len cap : Nat) (f : Nat → Bool), v = .slice a len cap ∧ len ≤ 9223372036854775807 ∧ SlAt w a len (fun k => .bool (f k)) := by
  rcases open_bools Try.uBools Try.underlying4 (by kernel_rfl) h with ⟨hcs, _⟩ | ⟨x, l, c, B, hcs, _, hl, hm, _, hcell⟩
  · simp at hcs
    exact ⟨Option.none, 0, 0, fun _ => false, hcs, by omega, SlAt.none _ _ _⟩
  · simp at hcs
    unfold maxLen at hm
    exact ⟨some x, l, c, B, hcs, by omega, SlAt.ofAdd hl hcell⟩

theorem open_bll {n : Nat} {v : Value} {y : DataW H × List MemPlace} (h : DataW.trod enc Try.prog w base (fun _ => true) held n 25 [v] = some y) :
    ∃ (a : Option Addr) (len cap : Nat) (A : Nat → Option Addr) (L C : Nat → Nat) (g : Nat → Nat → Bool), v = .slice a len cap ∧ len ≤ 9223372036854775807 ∧ (∀ i, i < len → L i ≤ 9223372036854775807) ∧
      SlAt w a len (fun i => .slice (A i) (L i) (C i)) ∧ ∀ i, i < len → SlAt w (A i) (L i) (fun j => .bool (g i j)) := by
  rcases open_bool_rows Try.uBoolss Try.uBools Try.underlying4 (by kernel_rfl) (by kernel_rfl) h with ⟨hcs, _⟩ | ⟨x, l, c, A, L, C, B, hcs, _, hl, hm, _, hrow⟩
  · simp at hcs
    exact ⟨Option.none, 0, 0, fun _ => Option.none, fun _ => 0, fun _ => 0, fun _ _ => false, hcs, by omega, fun i hi => absurd hi (Nat.not_lt_zero _), SlAt.none _ _ _, fun i hi => absurd hi (Nat.not_lt_zero _)⟩
  · simp at hcs
    unfold maxLen at hm hrow
    refine ⟨some x, l, c, A, L, C, B, hcs, by omega, fun i hi => ?_, SlAt.ofAdd hl (fun i hi => (hrow i hi).1), fun i hi => ?_⟩
    · obtain ⟨_, h1, h2, _⟩ := hrow i (by omega)
      omega
    · obtain ⟨_, h1, h2, h3, h4⟩ := hrow i (by omega)
      cases hA : A i with
      | none =>
        have := h3 hA
        have hz : L i = 0 := by omega
        rw [hz]
        exact SlAt.none _ _ _
      | some a' => exact SlAt.ofAdd h1 (h4 a' hA).2

theorem open_row {r : Reach} {b0 : Nat} {v : Value} {dd : DataW H} {p : List MemPlace} (hv : Value.okWide Try.prog w r b0 47 v) (h : DataW.Trod enc Try.prog w base (fun _ => true) held 47 v dd p) :
    ∃ (a1 a2 a3 a4 : Option Addr) (c1 c2 c3 c4 : Nat) (A : Nat → Option Addr) (C : Nat → Nat) (d : RD), v = .agg #[.slice a1 d.nN c1, .slice a2 d.nF c2, .slice a3 d.nO c3, .slice a4 d.nW c4] ∧ Bears d ∧ RowAt w a1 a2 a3 a4 A C d := by
  obtain ⟨v0, v1, v2, v3, y0, y1, y2, y3, n, rfl, _, _, h0, h1, h2, h3⟩ := open_agg4 Try.underlying47 (by kernel_rfl) (by kernel_rfl) hv h
  obtain ⟨a1, n1, c1, f1, rfl, m1, s1⟩ := open_il h0
  obtain ⟨a2, n2, c2, f2, rfl, m2, s2⟩ := open_il h1
  obtain ⟨a3, n3, c3, f3, rfl, m3, s3⟩ := open_bl h2
  obtain ⟨a4, n4, c4, A, L, C, g, rfl, m4, m5, s4, s5⟩ := open_bll h3
  exact ⟨a1, a2, a3, a4, c1, c2, c3, c4, A, C, ⟨n1, f1, n2, f2, n3, f3, n4, L, g⟩, rfl, ⟨m1, m2, m3, m4, m5⟩, ⟨s1, s2, s3, s4, s5⟩⟩
end

end Go.Proofs.Ytachkoledebanaa
