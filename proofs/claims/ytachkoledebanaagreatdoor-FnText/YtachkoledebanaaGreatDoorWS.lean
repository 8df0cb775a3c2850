/-
  Wants and Shows: the document's.
-/
import Derived.Test.YtachkoledebanaaGreatDoorWSD
namespace Go.Proofs.YtachkoledebanaaGreatDoor
open Go.RowKit

end Go.Proofs.YtachkoledebanaaGreatDoor
