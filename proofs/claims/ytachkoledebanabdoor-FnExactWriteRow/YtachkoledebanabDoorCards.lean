/-
  DERIVED. GIVEN WITH THE SEED: THE CARDS: each row of YtachkoledebanabDoorRows.lean that lists a variable, with what it lists TIED to the program's text (the seventh form; the later family's looks); each row that meets fmt, with fmt's text TOLD by the authors' own Lean function (tested against real Go, not proved from fmt's source: count such statements apart). THE CARD IS WHAT COUNTS. Prove the row's statement (the work); the ties are given (YtachkoledebanabDoorTie.lean); close each card by the builder's one call (the guide's Derived/Test/ToyasCard.lean, 'card_holds'). Laid BY PROGRAM, IN A SANDBOX (cutbox-door.mjs). By AI agents, Wed Nov 11 2026. No macro, syntax, notation, axiom, sorry.
-/
import Derived.Test.YtachkoledebanabDoorRows
import GoSem.ClaimSeven
namespace Go.Proofs.YtachkoledebanabDoor
namespace Rows

/-- THE TIED CARD OF 'laws.FnExactWriteRow'. -/
def fnExactWriteRowCard : Claim7 := { stood := { row := fnExactWriteRowRow, standIns := [], harness := (true, "5b0d361557b37910351b99b102fad4ca87683719765888beb758874f6181e422"), looks := false }, kinds := [], alts := [], laidByText := true, laidKinds := [.data, .data, .data], laidTests := true, laidLooks := .later }
def FnExactWriteRowCardSaid : Prop := Claim7.holds Tryd.pinned (.plain (OpenSpec.ofChange fnExactWriteRowSpec)) fnExactWriteRowCard

/-- THE SECOND FORM's CARD OF 'laws.FnExactWriteRow'. -/
def fnExactWriteRowUptoCard : Claim7 := { stood := { row := fnExactWriteRowUptoRow, standIns := [], harness := (true, "5b0d361557b37910351b99b102fad4ca87683719765888beb758874f6181e422"), looks := false }, kinds := [], alts := [], laidByText := true, laidKinds := [.data, .data, .data], laidTests := true, laidLooks := .later }
def FnExactWriteRowUptoCardSaid : Prop := Claim7.holds Tryd.pinned (.plain (OpenSpec.upto fnExactWriteRowSpec)) fnExactWriteRowUptoCard
end Rows
end Go.Proofs.YtachkoledebanabDoor
