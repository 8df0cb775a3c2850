/-
  ReadRow and Answer: the document's.
-/
import Derived.Test.YtachkoledebanabGreatDoorSig
namespace Go.Proofs.YtachkoledebanabGreatDoor
open Go.RowKit

theorem specReadRow_any (xs : List UInt8) (w : World) (hx : xs.length ≤ 1048576) :
    Calls Tryz.prog 5 #[.string (bs xs)] w fun e w' => RetTold xs e w' ∧ Below w.heap.size w w' :=
  specReadRow_of xs w hx fun l W hl => signal_any l W (by omega)
theorem specAnswer_any (xs : List UInt8) (w : World) (hx : xs.length ≤ 1048576) :
    Calls Tryz.prog 10 #[.string (bs xs)] w fun e w' => (∃ ys, IsAnswer xs ys ∧ e = .returned (.string (bs ys))) ∧ Below w.heap.size w w' :=
  specAnswer_of xs w fun W => specReadRow_any xs W hx

end Go.Proofs.YtachkoledebanabGreatDoor
