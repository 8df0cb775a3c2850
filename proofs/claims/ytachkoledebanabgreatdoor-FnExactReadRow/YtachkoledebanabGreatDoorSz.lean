/-
  szIntS, szBoolS, szBoolSS, szRow: what is told of the size: less than 0, or no list is longer than 2^20.
-/
import Derived.Test.YtachkoledebanabGreatDoorBaseEtc
namespace Go.Proofs.YtachkoledebanabGreatDoor
open Go.RowKit

/-- less than 0; or at least 0, at most what was left, and p -/
def SzOk (left : Int) (p : Prop) (r : Int) : Prop := r = -1 ∨ (0 ≤ r ∧ r ≤ left ∧ p)

/-- every length of the row is one that a machine bears -/
structure Bears (d : RD) : Prop where
  nN : d.nN ≤ 9223372036854775807
  nF : d.nF ≤ 9223372036854775807
  nO : d.nO ≤ 9223372036854775807
  nW : d.nW ≤ 9223372036854775807
  L : ∀ i, i < d.nW → d.L i ≤ 9223372036854775807

end Go.Proofs.YtachkoledebanabGreatDoor
