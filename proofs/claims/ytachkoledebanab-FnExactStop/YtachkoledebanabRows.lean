/-
  No cell of these rows narrows 'for every input' (looked for: loops, veiled, ifaces, maps, wideKeys, modest, calm, conditions, laid).
  DERIVED. THE GIVEN ROWS OF THIS SEAT. 5 by the template 'for every input the law returns true; each argument reads behind the call as it read before'; 0 by the template 'total and deterministic' (their statements: YtachkoledebanabTotals.lean).
  GIVEN WITH THE SEED: the statements are not yours to turn. If you find one false, say at which input.
  Laid BY PROGRAM, IN A SANDBOX (cutbox-rows.mjs): the forced cells as the released guide's own fill.sh prints them over the translation 5737c50d13efa257… (all of the seat's roots in one cut). By AI agents, Wed Nov 11 2026. No macro, syntax, notation, axiom, sorry.
-/
import Derived.Test.YtachkoledebanabChecked
import GoSem.Claim
import GoSem.ClaimJoined
import GoSem.ClaimMapViews
import Derived.JoinedTies
import Derived.KernelRfl
namespace Go.Proofs.Ytachkoledebanab
/- THE CELL 'sum', in the pinned program and in every row, IS THE sha256 OF THE DUMP (.gsa) THAT YtachkoledebanabProg.lean LOADS. Nothing in Lean hashes anything: it is a label: what it is worth is what the hold of that sum in a sandbox is worth. -/
noncomputable def Try.pinned : Pinned := { name := "ytachkoledebanab", sum := "5737c50d13efa257ac3042d7f06eaccdd14c0c0b4605bd885b4d992c296c2fa6", checked := Try.checked }
namespace Rows
def none {H : Type} : Left H := { results := [], args := [] }

/-- 'laws.FnExactClosing': WHATEVER THE INPUT: true; the input reads as it did. -/
def fnExactClosingSpec : ChangeSpec := { name := "fnExactClosing", fn := fun _ => fun
  | [d1, d2] => { results := [.lit (.bool true)], args := [d1, d2] }
  | _ => none }
def fnExactClosingRow : OpenClaim := { program := "ytachkoledebanab", sum := "5737c50d13efa257ac3042d7f06eaccdd14c0c0b4605bd885b4d992c296c2fa6", func := "loop.example/aspect/laws.FnExactClosing", spec := "fnExactClosing", unfollowed := true, recurses := true, apart := false }
def FnExactClosingSaid : Prop := fnExactClosingRow.holds Try.pinned (OpenSpec.ofChange fnExactClosingSpec)

/-- ITS FALSE NEIGHBOUR: 'it returns false'. Refute it at one input. -/
def fnExactClosingWrong : ChangeSpec := { name := "fnExactClosing", fn := fun _ => fun
  | [d1, d2] => { results := [.lit (.bool false)], args := [d1, d2] }
  | _ => none }
def FnExactClosingWrongFalsely : Prop := fnExactClosingRow.holds Try.pinned (OpenSpec.ofChange fnExactClosingWrong)

/-- 'laws.FnExactBreaking': WHATEVER THE INPUT: true; the input reads as it did. -/
def fnExactBreakingSpec : ChangeSpec := { name := "fnExactBreaking", fn := fun _ => fun
  | [d1, d2, d3] => { results := [.lit (.bool true)], args := [d1, d2, d3] }
  | _ => none }
def fnExactBreakingRow : OpenClaim := { program := "ytachkoledebanab", sum := "5737c50d13efa257ac3042d7f06eaccdd14c0c0b4605bd885b4d992c296c2fa6", func := "loop.example/aspect/laws.FnExactBreaking", spec := "fnExactBreaking", unfollowed := true, recurses := true, apart := false }
def FnExactBreakingSaid : Prop := fnExactBreakingRow.holds Try.pinned (OpenSpec.ofChange fnExactBreakingSpec)

/-- ITS FALSE NEIGHBOUR: 'it returns false'. Refute it at one input. -/
def fnExactBreakingWrong : ChangeSpec := { name := "fnExactBreaking", fn := fun _ => fun
  | [d1, d2, d3] => { results := [.lit (.bool false)], args := [d1, d2, d3] }
  | _ => none }
def FnExactBreakingWrongFalsely : Prop := fnExactBreakingRow.holds Try.pinned (OpenSpec.ofChange fnExactBreakingWrong)

/-- 'laws.FnExactRoom': WHATEVER THE INPUT: true; the input reads as it did. -/
def fnExactRoomSpec : ChangeSpec := { name := "fnExactRoom", fn := fun _ => fun
  | [d1, d2] => { results := [.lit (.bool true)], args := [d1, d2] }
  | _ => none }
def fnExactRoomRow : OpenClaim := { program := "ytachkoledebanab", sum := "5737c50d13efa257ac3042d7f06eaccdd14c0c0b4605bd885b4d992c296c2fa6", func := "loop.example/aspect/laws.FnExactRoom", spec := "fnExactRoom", unfollowed := true, recurses := true, apart := false }
def FnExactRoomSaid : Prop := fnExactRoomRow.holds Try.pinned (OpenSpec.ofChange fnExactRoomSpec)

/-- ITS FALSE NEIGHBOUR: 'it returns false'. Refute it at one input. -/
def fnExactRoomWrong : ChangeSpec := { name := "fnExactRoom", fn := fun _ => fun
  | [d1, d2] => { results := [.lit (.bool false)], args := [d1, d2] }
  | _ => none }
def FnExactRoomWrongFalsely : Prop := fnExactRoomRow.holds Try.pinned (OpenSpec.ofChange fnExactRoomWrong)

/-- 'laws.FnExactStop': WHATEVER THE INPUT: true; the input reads as it did. -/
def fnExactStopSpec : ChangeSpec := { name := "fnExactStop", fn := fun _ => fun
  | [d1, d2] => { results := [.lit (.bool true)], args := [d1, d2] }
  | _ => none }
def fnExactStopRow : OpenClaim := { program := "ytachkoledebanab", sum := "5737c50d13efa257ac3042d7f06eaccdd14c0c0b4605bd885b4d992c296c2fa6", func := "loop.example/aspect/laws.FnExactStop", spec := "fnExactStop", unfollowed := true, recurses := true, apart := false }
def FnExactStopSaid : Prop := fnExactStopRow.holds Try.pinned (OpenSpec.ofChange fnExactStopSpec)

/-- ITS FALSE NEIGHBOUR: 'it returns false'. Refute it at one input. -/
def fnExactStopWrong : ChangeSpec := { name := "fnExactStop", fn := fun _ => fun
  | [d1, d2] => { results := [.lit (.bool false)], args := [d1, d2] }
  | _ => none }
def FnExactStopWrongFalsely : Prop := fnExactStopRow.holds Try.pinned (OpenSpec.ofChange fnExactStopWrong)

/-- 'laws.FnExactSpeed': WHATEVER THE INPUT: true; the input reads as it did. -/
def fnExactSpeedSpec : ChangeSpec := { name := "fnExactSpeed", fn := fun _ => fun
  | [d1, d2, d3, d4] => { results := [.lit (.bool true)], args := [d1, d2, d3, d4] }
  | _ => none }
def fnExactSpeedRow : OpenClaim := { program := "ytachkoledebanab", sum := "5737c50d13efa257ac3042d7f06eaccdd14c0c0b4605bd885b4d992c296c2fa6", func := "loop.example/aspect/laws.FnExactSpeed", spec := "fnExactSpeed", unfollowed := true, recurses := true, apart := false }
def FnExactSpeedSaid : Prop := fnExactSpeedRow.holds Try.pinned (OpenSpec.ofChange fnExactSpeedSpec)

/-- ITS FALSE NEIGHBOUR: 'it returns false'. Refute it at one input. -/
def fnExactSpeedWrong : ChangeSpec := { name := "fnExactSpeed", fn := fun _ => fun
  | [d1, d2, d3, d4] => { results := [.lit (.bool false)], args := [d1, d2, d3, d4] }
  | _ => none }
def FnExactSpeedWrongFalsely : Prop := fnExactSpeedRow.holds Try.pinned (OpenSpec.ofChange fnExactSpeedWrong)

/- THE SECOND FORM. 'bulk': how many values and letters a reading holds, each counted each time it is reached (what is shared counts as often as it is met; a slice's spare places count too). A statement '..UptoSaid' is the law's where the arguments, and the package variables that the reading takes, are together of bulk at most 1048576: NARROWER than '..Said'. Prove '..Said' where nothing that the law and all that it calls make is longer than what came in: it says more and counts as full. Else prove '..UptoSaid'. A law counts once. -/
mutual
def uptoBulk {H : Type} : DataW H → Nat
  | .lit (.string bytes) => bytes.length + 1
  | .lit _ => 1
  | .nil => 1
  | .ptr d => uptoBulk d + 1
  | .slice elems spare => uptoBulkAll elems + uptoBulkAll spare + 1
  | .agg parts => uptoBulkAll parts + 1
  | .iface _ d => uptoBulk d + 1
  | .map entries => uptoBulkEntries entries + 1
  | .held _ => 1
def uptoBulkAll {H : Type} : List (DataW H) → Nat
  | [] => 0
  | d :: r => uptoBulk d + uptoBulkAll r
def uptoBulkEntries {H : Type} : List (Lit × DataW H) → Nat
  | [] => 0
  | x :: r => uptoBulkEntry x + uptoBulkEntries r
def uptoBulkEntry {H : Type} : Lit × DataW H → Nat
  | (.string bytes, d) => bytes.length + uptoBulk d + 1
  | (_, d) => uptoBulk d + 1
 end
def uptoSmall : (H : Type) → List (DataW H) → Bool := fun _ ds => decide (uptoBulkAll ds ≤ 1048576)
def OpenSpec.upto (s : _root_.Go.ChangeSpec) : _root_.Go.OpenSpec := { _root_.Go.OpenSpec.ofChange s with cond := some uptoSmall }

/-- 'laws.FnExactClosing', WHERE WHAT IT READS IS OF BULK AT MOST 1048576: true; the input reads as it did. -/
def fnExactClosingUptoRow : OpenClaim := { program := "ytachkoledebanab", sum := "5737c50d13efa257ac3042d7f06eaccdd14c0c0b4605bd885b4d992c296c2fa6", func := "loop.example/aspect/laws.FnExactClosing", spec := "fnExactClosing", unfollowed := true, recurses := true, apart := false, narrowed := true }
def FnExactClosingUptoSaid : Prop := fnExactClosingUptoRow.holds Try.pinned (OpenSpec.upto fnExactClosingSpec)

/-- 'laws.FnExactBreaking', WHERE WHAT IT READS IS OF BULK AT MOST 1048576: true; the input reads as it did. -/
def fnExactBreakingUptoRow : OpenClaim := { program := "ytachkoledebanab", sum := "5737c50d13efa257ac3042d7f06eaccdd14c0c0b4605bd885b4d992c296c2fa6", func := "loop.example/aspect/laws.FnExactBreaking", spec := "fnExactBreaking", unfollowed := true, recurses := true, apart := false, narrowed := true }
def FnExactBreakingUptoSaid : Prop := fnExactBreakingUptoRow.holds Try.pinned (OpenSpec.upto fnExactBreakingSpec)

/-- 'laws.FnExactRoom', WHERE WHAT IT READS IS OF BULK AT MOST 1048576: true; the input reads as it did. -/
def fnExactRoomUptoRow : OpenClaim := { program := "ytachkoledebanab", sum := "5737c50d13efa257ac3042d7f06eaccdd14c0c0b4605bd885b4d992c296c2fa6", func := "loop.example/aspect/laws.FnExactRoom", spec := "fnExactRoom", unfollowed := true, recurses := true, apart := false, narrowed := true }
def FnExactRoomUptoSaid : Prop := fnExactRoomUptoRow.holds Try.pinned (OpenSpec.upto fnExactRoomSpec)

/-- 'laws.FnExactStop', WHERE WHAT IT READS IS OF BULK AT MOST 1048576: true; the input reads as it did. -/
def fnExactStopUptoRow : OpenClaim := { program := "ytachkoledebanab", sum := "5737c50d13efa257ac3042d7f06eaccdd14c0c0b4605bd885b4d992c296c2fa6", func := "loop.example/aspect/laws.FnExactStop", spec := "fnExactStop", unfollowed := true, recurses := true, apart := false, narrowed := true }
def FnExactStopUptoSaid : Prop := fnExactStopUptoRow.holds Try.pinned (OpenSpec.upto fnExactStopSpec)

/-- 'laws.FnExactSpeed', WHERE WHAT IT READS IS OF BULK AT MOST 1048576: true; the input reads as it did. -/
def fnExactSpeedUptoRow : OpenClaim := { program := "ytachkoledebanab", sum := "5737c50d13efa257ac3042d7f06eaccdd14c0c0b4605bd885b4d992c296c2fa6", func := "loop.example/aspect/laws.FnExactSpeed", spec := "fnExactSpeed", unfollowed := true, recurses := true, apart := false, narrowed := true }
def FnExactSpeedUptoSaid : Prop := fnExactSpeedUptoRow.holds Try.pinned (OpenSpec.upto fnExactSpeedSpec)

end Rows
end Go.Proofs.Ytachkoledebanab
