/-
  FnExactRowOk: at every row: true; nothing that was there has turned.
-/
import Derived.Test.YtachkoledebanaaOk2
import Derived.Test.YtachkoledebanaaSz
import Derived.Test.YtachkoledebanaaEq
namespace Go.Proofs.Ytachkoledebanaa
open Go.RowKit

set_option maxHeartbeats 2000000 in
theorem lawRowOk (a1 a2 a3 a4 : Option Addr) (c1 c2 c3 c4 : Nat) (A : Nat → Option Addr) (C : Nat → Nat) (d : RD) (w : World) (hre : Bears d) (h : RowAt w a1 a2 a3 a4 A C d) :
    Calls Try.prog 9 #[.agg #[.slice a1 d.nN c1, .slice a2 d.nF c2, .slice a3 d.nO c3, .slice a4 d.nW c4]] w fun e w' =>
      e = .returned (.bool true) ∧ Below w.heap.size w w' := by
  have bel : Below w.heap.size w (w.alloc (.cells #[.slice a1 d.nN c1, .slice a2 d.nF c2, .slice a3 d.nO c3, .slice a4 d.nW c4] 47)) := (Below.refl _ _).alloc (Nat.le_refl _) _
  have hk := h.keep bel
  have hbk := Blk.new w #[.slice a1 d.nN c1, .slice a2 d.nF c2, .slice a3 d.nO c3, .slice a4 d.nW c4] 47
  have hsz : (w.alloc (.cells #[.slice a1 d.nN c1, .slice a2 d.nF c2, .slice a3 d.nO c3, .slice a4 d.nW c4] 47)).heap.size = w.heap.size + 1 := by simp
  clear h
  go_enter Try.func9, Try.ntmps9
  go_wp2_with fail
  generalize (w.alloc (.cells #[.slice a1 d.nN c1, .slice a2 d.nF c2, .slice a3 d.nO c3, .slice a4 d.nW c4] 47)) = W at *
  refine (szRow_any a1 a2 a3 a4 c1 c2 c3 c4 A C d 1048576 W (by omega) (by omega) hre hk).mono ?_
  rintro e w1 ⟨⟨r, rfl, hr⟩, hb1⟩
  have bel1 : Below w.heap.size w w1 := bel.trans (hb1.mono (by omega))
  rcases hr with rfl | ⟨q0, q1, hsm⟩
  · clear hk hbk hb1 bel hre
    go_wp2
    go_ret
    exact ⟨rfl, bel1⟩
  have hk1 := hk.keep hb1
  have hbr := hbk.keep hb1
  have hz1 : w.heap.size + 1 ≤ w1.heap.size := by have := hb1.size; omega
  have b0 := hbr.cell 0
  have b1 := hbr.cell 1
  have b2 := hbr.cell 2
  have b3 := hbr.cell 3
  simp at b0 b1 b2 b3
  clear hbk hk hsz hb1 bel hre q1
  go_wp2_with fail
  refine (toRow_any a1 a2 a3 a4 c1 c2 c3 c4 A C d w1 hsm hk1).mono ?_
  rintro e w2 ⟨rfl, own2, hb2, hs2⟩
  have bel2 : Below w.heap.size w w2 := bel1.trans (hb2.mono (by omega))
  have hk2 := hk1.keep hb2
  have hbr2 := hbr.keep hb2
  have hz2 : w.heap.size + 1 ≤ w2.heap.size := by have := hb2.size; omega
  unfold ownRow
  have hsp := specRowOk_any _ _ _ _ d.nN d.nF d.nO d.nW _ _ d w2 hsm own2.at
  clear hbr hk1 b0 b1 b2 b3 hb2 bel1 hs2 own2
  go_wp2_with fail
  refine hsp.mono ?_
  rintro e w3 ⟨⟨r3, rfl, hr3⟩, hb3⟩
  clear hsp
  have bel3 : Below w.heap.size w w3 := bel2.trans (hb3.mono (by omega))
  have hk3 := hk2.keep hb3
  have hbr3 := hbr2.keep hb3
  have hz3 : w.heap.size + 1 ≤ w3.heap.size := by have := hb3.size; omega
  have b0 := hbr3.cell 0
  have b1 := hbr3.cell 1
  have b2 := hbr3.cell 2
  have b3 := hbr3.cell 3
  simp at b0 b1 b2 b3
  clear hbr2 hk2 hb3 bel2 hz2
  go_wp2_with fail
  refine (toRow_any a1 a2 a3 a4 c1 c2 c3 c4 A C d w3 hsm hk3).mono ?_
  rintro e w4 ⟨rfl, own4, hb4, hs4⟩
  have bel4 : Below w.heap.size w w4 := bel3.trans (hb4.mono (by omega))
  have hk4 := hk3.keep hb4
  have hbr4 := hbr3.keep hb4
  have hz4 : w.heap.size + 1 ≤ w4.heap.size := by have := hb4.size; omega
  unfold ownRow
  have HS4 : Hid (w4.heap.size = w3.heap.size + 3 + 4 + d.nW) := hs4
  clear hbr3 hk3 hb4 bel3 b0 b1 b2 b3 hs4
  go_wp2_with fail
  have hal : Below w4.heap.size w4 (w4.alloc (.cells #[.slice (some ⟨w3.heap.size + 3, 0, none⟩) d.nN d.nN, .slice (some ⟨w3.heap.size + 3 + 1, 0, none⟩) d.nF d.nF, .slice (some ⟨w3.heap.size + 3 + 2, 0, none⟩) d.nO d.nO, .slice (some ⟨w3.heap.size + 3 + 3, 0, none⟩) d.nW d.nW] 27)) := (Below.refl _ _).alloc (Nat.le_refl _) _
  have hbx := Blk.new w4 #[.slice (some ⟨w3.heap.size + 3, 0, none⟩) d.nN d.nN, .slice (some ⟨w3.heap.size + 3 + 1, 0, none⟩) d.nF d.nF, .slice (some ⟨w3.heap.size + 3 + 2, 0, none⟩) d.nO d.nO, .slice (some ⟨w3.heap.size + 3 + 3, 0, none⟩) d.nW d.nW] 27
  have hz5 : (w4.alloc (.cells #[.slice (some ⟨w3.heap.size + 3, 0, none⟩) d.nN d.nN, .slice (some ⟨w3.heap.size + 3 + 1, 0, none⟩) d.nF d.nF, .slice (some ⟨w3.heap.size + 3 + 2, 0, none⟩) d.nO d.nO, .slice (some ⟨w3.heap.size + 3 + 3, 0, none⟩) d.nW d.nW] 27)).heap.size = w4.heap.size + 1 := by simp
  generalize (w4.alloc (.cells #[.slice (some ⟨w3.heap.size + 3, 0, none⟩) d.nN d.nN, .slice (some ⟨w3.heap.size + 3 + 1, 0, none⟩) d.nF d.nF, .slice (some ⟨w3.heap.size + 3 + 2, 0, none⟩) d.nO d.nO, .slice (some ⟨w3.heap.size + 3 + 3, 0, none⟩) d.nW d.nW] 27)) = w5 at *
  have bel5 : Below w.heap.size w w5 := bel4.trans (hal.mono (by omega))
  have hk5 := hk4.keep hal
  have hbr5 := hbr4.keep hal
  have own5 := (own4.keep hal (by have := HS4.out; omega)).at
  clear hal hk4 hbr4 own4 bel4
  refine (implRowOk_any _ _ _ _ d.nN d.nF d.nO d.nW _ _ d w5 hsm own5).mono ?_
  rintro e w6 ⟨⟨r6, rfl, hr6⟩, hb6⟩
  have hx : (r6 != r3) = false := by rw [bne_eq_false_iff_eq]; exact hr6.one hr3
  have bel6 : Below w.heap.size w w6 := bel5.trans (hb6.mono (by omega))
  have hk6 := hk5.keep hb6
  have hbr6 := hbr5.keep hb6
  have hbx6 := hbx.keep hb6
  have own6 := own5.keep hb6
  have hz6 : w4.heap.size + 1 ≤ w6.heap.size := by have := hb6.size; omega
  have b0 := hbr6.cell 0
  have b1 := hbr6.cell 1
  have b2 := hbr6.cell 2
  have b3 := hbr6.cell 3
  have x0 := hbx6.cell 0
  have x1 := hbx6.cell 1
  have x2 := hbx6.cell 2
  have x3 := hbx6.cell 3
  simp at b0 b1 b2 b3 x0 x1 x2 x3
  clear hk5 hbr5 hbx own5 hb6 bel5 hz5 hr3 hr6
  go_wp2_with fail
  go_region_with (first
    | (go_at_call 37; refine (toRow_any a1 a2 a3 a4 c1 c2 c3 c4 A C d _ hsm ?_).mono ?_; exact hk6.drew; rintro e w7 ⟨rfl, own7, hb7, -⟩; unfold ownRow; have hbx7 := hbx6.drew.keep hb7; have y0 := hbx7.cell 0; have y1 := hbx7.cell 1; have y2 := hbx7.cell 2; have y3 := hbx7.cell 3; simp at y0 y1 y2 y3; have own6' := own6.drew.keep hb7)
    | (go_at_call 39; refine (eqRow_same _ _ _ _ _ _ _ _ d.nN d.nF d.nO d.nW d.nN d.nF d.nO d.nW (fun k => some ⟨w3.heap.size + 3 + 4 + k, 0, none⟩) (fun k => some ⟨w6.heap.size + 3 + 4 + k, 0, none⟩) d.L d.L d _ hsm ?_ ?_).mono ?_; exact own6'; exact own7.at; rintro e w8 ⟨rfl, hb8⟩))
  all_goals
    go_wp2
    go_ret
    exact ⟨rfl, chain (chain bel6.drew hb7) hb8⟩

end Go.Proofs.Ytachkoledebanaa
