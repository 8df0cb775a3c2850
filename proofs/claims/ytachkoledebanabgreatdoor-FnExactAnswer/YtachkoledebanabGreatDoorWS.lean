/-
  Wants and Shows: the document's.
-/
import Derived.Test.YtachkoledebanabGreatDoorWSD
namespace Go.Proofs.YtachkoledebanabGreatDoor
open Go.RowKit

end Go.Proofs.YtachkoledebanabGreatDoor
