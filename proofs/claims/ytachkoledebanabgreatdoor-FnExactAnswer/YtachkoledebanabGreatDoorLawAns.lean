/-
  FnExactAnswer: at every text: true; nothing that was there has turned.
-/
import Derived.Test.YtachkoledebanabGreatDoorAn2
import Derived.Test.YtachkoledebanabGreatDoorDoc4
namespace Go.Proofs.YtachkoledebanabGreatDoor
open Go.RowKit

set_option maxHeartbeats 2000000 in
theorem lawAnswer (xs : List UInt8) (w : World) (L : Laid w) (hn : Names w) (h63 : xs.length ≤ 9223372036854775807) :
    Calls Tryz.prog 4 #[.string (bs xs)] w fun e w' => e = .returned (.bool true) ∧ Below w.heap.size w w' := by
  have hz := bs_size xs
  go_enter Tryz.func4, Tryz.ntmps4
  by_cases hl : 1048576 < xs.length
  case pos =>
    have z : decide ((1048576 : Int) < (xs.length : Int)) = true := by simp; omega
    clear L hn
    go_wp2
    go_ret
    exact ⟨rfl, Below.refl _ _⟩
  have z : decide ((1048576 : Int) < (xs.length : Int)) = false := by simp; omega
  have hs := specAnswer_any xs w (by omega)
  have HL : Hid (Laid w) := L
  have HN : Hid (Names w) := hn
  clear L hn
  go_wp2_with fail
  refine hs.mono ?_
  rintro e w1 ⟨⟨ys, hy, rfl⟩, hb1⟩
  have hi := implAnswer_any xs w1 (HL.out.keep hb1) (HN.out.keep hb1) (by omega)
  clear hs
  go_wp2_with fail
  refine hi.mono ?_
  rintro e w2 ⟨⟨zs, hz', rfl⟩, hb2⟩
  obtain rfl := hy.one hz'
  have hb := chain hb1 hb2
  have ze : ((bs ys).toList == (bs ys).toList) = true := by simp
  clear hi hy hz'
  go_wp2
  go_ret
  exact ⟨rfl, hb⟩

end Go.Proofs.YtachkoledebanabGreatDoor
