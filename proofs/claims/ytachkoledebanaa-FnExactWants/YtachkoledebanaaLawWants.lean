/-
  FnExactWants: at every row: true; nothing that was there has turned.
-/
import Derived.Test.YtachkoledebanaaWan2
import Derived.Test.YtachkoledebanaaSz
import Derived.Test.YtachkoledebanaaEq
import Derived.Test.YtachkoledebanaaHeld
import Derived.Deep.DeepCutAuto
namespace Go.Proofs.Ytachkoledebanaa
open Go.RowKit

set_option maxHeartbeats 4000000 in
theorem lawWants (a1 a2 a3 a4 : Option Addr) (c1 c2 c3 c4 : Nat) (A : Nat → Option Addr) (C : Nat → Nat) (d : RD) (w : World) (hre : Bears d) (h : RowAt w a1 a2 a3 a4 A C d) :
    Calls Try.prog 12 #[.agg #[.slice a1 d.nN c1, .slice a2 d.nF c2, .slice a3 d.nO c3, .slice a4 d.nW c4]] w fun e w' =>
      e = .returned (.bool true) ∧ Below w.heap.size w w' := by
  have bel : Below w.heap.size w (w.alloc (.cells #[.slice a1 d.nN c1, .slice a2 d.nF c2, .slice a3 d.nO c3, .slice a4 d.nW c4] 47)) := (Below.refl _ _).alloc (Nat.le_refl _) _
  have hk := h.keep bel
  have hbk := Blk.new w #[.slice a1 d.nN c1, .slice a2 d.nF c2, .slice a3 d.nO c3, .slice a4 d.nW c4] 47
  have hsz : (w.alloc (.cells #[.slice a1 d.nN c1, .slice a2 d.nF c2, .slice a3 d.nO c3, .slice a4 d.nW c4] 47)).heap.size = w.heap.size + 1 := by simp
  clear h
  go_enter Try.func12, Try.ntmps12
  go_wp2_with fail
  generalize (w.alloc (.cells #[.slice a1 d.nN c1, .slice a2 d.nF c2, .slice a3 d.nO c3, .slice a4 d.nW c4] 47)) = W at *
  refine (szRow_any a1 a2 a3 a4 c1 c2 c3 c4 A C d 1048576 W (by omega) (by omega) hre hk).mono ?_
  rintro e w1 ⟨⟨r, rfl, hr⟩, hb1⟩
  have bel1 : Below w.heap.size w w1 := chain bel hb1
  rcases hr with rfl | ⟨q0, q1, hsm⟩
  · clear hk hbk hb1 bel hre
    go_wp2
    go_ret
    exact ⟨rfl, bel1⟩
  -- W1 := the world behind szRow; what came in, and its box, below its size
  have hk1 := hk.keep hb1
  have hbr := hbk.keep hb1
  have hN : w.heap.size + 1 ≤ w1.heap.size := by have := hb1.size; omega
  have b0 := hbr.cell 0
  have b1 := hbr.cell 1
  have b2 := hbr.cell 2
  have b3 := hbr.cell 3
  simp at b0 b1 b2 b3
  clear hbk hk hsz hb1 bel hre q1
  go_wp2_with fail
  refine (toRow_any a1 a2 a3 a4 c1 c2 c3 c4 A C d w1 hsm hk1).mono ?_
  rintro e w2 ⟨rfl, own2, hb2, hs2⟩
  unfold ownRow
  have hsp := specWants_any _ _ _ _ d.nN d.nF d.nO d.nW _ _ d w2 hsm own2.at
  clear b0 b1 b2 b3 hs2 own2
  go_wp2_with fail
  refine hsp.mono ?_
  rintro e w3 ⟨⟨xs, hxs, ⟨s0, cs0, rfl, hw0⟩⟩, hb3⟩
  clear hsp
  have B3 : Below w1.heap.size w1 w3 := chain hb2 hb3
  have HZ13 : Hid (w1.heap.size ≤ w3.heap.size) := B3.size
  have hle : xs.length ≤ 60 := hxs.le
  have hk3 := hk1.keep B3
  have hbr3 := hbr.keep B3
  have b0 := hbr3.cell 0
  have b1 := hbr3.cell 1
  have b2 := hbr3.cell 2
  have b3 := hbr3.cell 3
  simp at b0 b1 b2 b3
  clear hb2 hb3
  go_wp2_with fail
  refine (toRow_any a1 a2 a3 a4 c1 c2 c3 c4 A C d w3 hsm hk3).mono ?_
  rintro e w4 ⟨rfl, own4, hb4, hs4⟩
  have HS4 : Hid (w4.heap.size = w3.heap.size + 3 + 4 + d.nW) := hs4
  have B4 : Below w1.heap.size w1 w4 := chain B3 hb4
  have hw4 := hw0.keep hb4
  unfold ownRow
  clear hb4 b0 b1 b2 b3 hs4 hk3 hbr3 hw0
  go_wp2_with fail
  have hal : Below w4.heap.size w4 (w4.alloc (.cells #[.slice (some ⟨w3.heap.size + 3, 0, none⟩) d.nN d.nN, .slice (some ⟨w3.heap.size + 3 + 1, 0, none⟩) d.nF d.nF, .slice (some ⟨w3.heap.size + 3 + 2, 0, none⟩) d.nO d.nO, .slice (some ⟨w3.heap.size + 3 + 3, 0, none⟩) d.nW d.nW] 27)) := (Below.refl _ _).alloc (Nat.le_refl _) _
  have hbx := Blk.new w4 #[.slice (some ⟨w3.heap.size + 3, 0, none⟩) d.nN d.nN, .slice (some ⟨w3.heap.size + 3 + 1, 0, none⟩) d.nF d.nF, .slice (some ⟨w3.heap.size + 3 + 2, 0, none⟩) d.nO d.nO, .slice (some ⟨w3.heap.size + 3 + 3, 0, none⟩) d.nW d.nW] 27
  have hz5 : (w4.alloc (.cells #[.slice (some ⟨w3.heap.size + 3, 0, none⟩) d.nN d.nN, .slice (some ⟨w3.heap.size + 3 + 1, 0, none⟩) d.nF d.nF, .slice (some ⟨w3.heap.size + 3 + 2, 0, none⟩) d.nO d.nO, .slice (some ⟨w3.heap.size + 3 + 3, 0, none⟩) d.nW d.nW] 27)).heap.size = w4.heap.size + 1 := by simp
  generalize (w4.alloc (.cells #[.slice (some ⟨w3.heap.size + 3, 0, none⟩) d.nN d.nN, .slice (some ⟨w3.heap.size + 3 + 1, 0, none⟩) d.nF d.nF, .slice (some ⟨w3.heap.size + 3 + 2, 0, none⟩) d.nO d.nO, .slice (some ⟨w3.heap.size + 3 + 3, 0, none⟩) d.nW d.nW] 27)) = w5 at *
  have B5 : Below w1.heap.size w1 w5 := chain B4 hal
  have own5 := own4.keep hal (by have := HS4.out; omega)
  have hw5 := hw4.keep hal
  clear hal own4 B4 hw4 B3
  refine (implWants_any _ _ _ _ d.nN d.nF d.nO d.nW _ _ d w5 hsm own5.at).mono ?_
  rintro e w6 ⟨⟨ys, hys, ⟨sg, cg, rfl, hg⟩⟩, hb6⟩
  obtain rfl := hxs.one hys
  have B6 : Below w1.heap.size w1 w6 := chain B5 hb6
  have own6 := own5.keep hb6 (by have := HS4.out; omega)
  have hw6 := hw5.keep hb6
  have hbx6 := hbx.keep hb6
  have HZ : Hid (w5.heap.size = w4.heap.size + 1 ∧ w5.heap.size ≤ w6.heap.size ∧ w3.heap.size ≤ w4.heap.size) := ⟨hz5, hb6.size, by have := HS4.out; omega⟩
  clear own5 hw5 hbx hb6 B5 hz5 hys
  go_wp2_with fail
  refine (eqIntS_same sg s0 xs.length cg cs0 (fun k => xs.getD k 0) w6 (by omega) hg.sl hw6.sl).mono ?_
  rintro e w7 ⟨rfl, m7, hw7⟩
  have hb7 : Below w6.heap.size w6 w7 := by subst hw7; exact below_drewN (Below.refl _ _) _
  clear hw7
  have B7 : Below w1.heap.size w1 w7 := chain B6 hb7
  have own7 := own6.keep hb7 (by have := HS4.out; have := HZ.out; omega)
  have hw7 := hw6.keep hb7
  have hg7 := hg.keep hb7
  have hbx7 := hbx6.keep hb7
  have HZ7 : Hid (w6.heap.size ≤ w7.heap.size) := hb7.size
  have hk7 := hk1.keep B7
  have hbr7 := hbr.keep B7
  have b0 := hbr7.cell 0
  have b1 := hbr7.cell 1
  have b2 := hbr7.cell 2
  have b3 := hbr7.cell 3
  have x0 := hbx7.cell 0
  have x1 := hbx7.cell 1
  have x2 := hbx7.cell 2
  have x3 := hbx7.cell 3
  simp at b0 b1 b2 b3 x0 x1 x2 x3
  clear own6 hw6 hg hbx6 hb7 B6
  go_wp2_with fail
  go_cut [31] (fun t wc => t = .bool false ∧ Below w7.heap.size w7 wc)
  case first =>
    go_region_with (first
      | (go_at_call 37; refine (toRow_any a1 a2 a3 a4 c1 c2 c3 c4 A C d _ hsm ?_).mono ?_; exact hk7.drew; rintro e w8 ⟨rfl, own8, hb8, -⟩; unfold ownRow; have hbx8 := hbx7.drew.keep hb8; have y0 := hbx8.cell 0; have y1 := hbx8.cell 1; have y2 := hbx8.cell 2; have y3 := hbx8.cell 3; simp at y0 y1 y2 y3; have own7' := own7.at.drew.keep hb8)
      | (go_at_call 39; refine (eqRow_same _ _ _ _ _ _ _ _ d.nN d.nF d.nO d.nW d.nN d.nF d.nO d.nW (fun k => some ⟨w3.heap.size + 3 + 4 + k, 0, none⟩) (fun k => some ⟨w7.heap.size + 3 + 4 + k, 0, none⟩) d.L d.L d _ hsm ?_ ?_).mono ?_; exact own7'; exact own8.at; rintro e w9 ⟨rfl, hb9⟩))
    all_goals
      go_wp2_with fail
      go_meet
      exact ⟨rfl, chain (chain (Below.refl _ _).drew hb8) hb9⟩
  case rest =>
    obtain ⟨rfl, hb9⟩ := hcut
    have B9 : Below w1.heap.size w1 wc := chain B7 hb9
    have own9 := own7.keep hb9 (by have := HS4.out; have := HZ.out; have := HZ7.out; omega)
    have hw9 := hw7.keep hb9
    have hg9 := hg7.keep hb9
    have hbx9 := hbx7.keep hb9
    have HZ9 : Hid (w7.heap.size ≤ wc.heap.size) := hb9.size
    clear x0 x1 x2 x3 b0 b1 b2 b3 own7 hw7 hg7 hbx7 hb9 B7 hbr7 hk7
    have x0 := hbx9.cell 0
    have x1 := hbx9.cell 1
    have x2 := hbx9.cell 2
    have x3 := hbx9.cell 3
    simp at x0 x1 x2 x3
    go_wp2_with fail
    refine (markRow_own (w3.heap.size + 3) d 1 wc hsm (by omega) (by omega) own9).mono ?_
    rintro e w10 ⟨⟨r10, rfl, hr10⟩, o10⟩
    have HZ10 : Hid (wc.heap.size ≤ w10.heap.size) := o10.size
    have B10 : Below w1.heap.size w1 w10 := B9.trans (o10.below (by have := HZ13.out; omega) B9.size)
    have hw10 := hw9.only o10 (Or.inl (by omega))
    have hg10 := hg9.only o10 (Or.inr (by have := HS4.out; have := HZ.out; omega))
    have hz : decide (r10 < 0) = false := by simp; omega
    clear x0 x1 x2 x3 own9 hw9 hg9 hbx9 o10 B9
    go_wp2_with fail
    refine (eqIntS_same sg s0 xs.length cg cs0 (fun k => xs.getD k 0) w10 (by omega) hg10.sl hw10.sl).mono ?_
    rintro e w11 ⟨rfl, m11, hw11⟩
    have hb11 : Below w10.heap.size w10 w11 := by subst hw11; exact below_drewN (Below.refl _ _) _
    clear hw11
    have B11 : Below w1.heap.size w1 w11 := chain B10 hb11
    have hw11 := hw10.keep hb11
    have hg11 := hg10.keep hb11
    have HZ11 : Hid (w10.heap.size ≤ w11.heap.size) := hb11.size
    clear hw10 hg10 hb11 B10
    go_wp2_with fail
    refine (markIntS_any sg xs.length cg w5.heap.size w6.heap.size (fun k => xs.getD k 0) 1 w11 (by omega) (by omega) (by omega) hg11).mono ?_
    rintro e w12 ⟨rfl, hg12, o12, hs12⟩
    have B12 : Below w1.heap.size w1 w12 := B11.trans (o12.below (by have := HS4.out; have := HZ.out; have := HZ13.out; omega) B11.size)
    have hw12 := hw11.only o12 (Or.inl (by have := HZ.out; omega))
    have HZ12 : Hid (w11.heap.size ≤ w12.heap.size) := o12.size
    clear hg11 hw11 o12 hs12 B11
    go_wp2_with fail
    refine (heldIntS_any sg xs.length cg 1 w12 (by omega) (by omega) (by omega) hg12.sl).mono ?_
    rintro e w13 ⟨rfl, hw13⟩
    have hw13 := hw13.symm
    subst hw13
    have z1 : decide ((1 : Int) + (xs.length : Int) < 0) = false := by simp; omega
    have z2 : (((1 : Int) + (xs.length : Int)) != ((1 : Int) + (xs.length : Int))) = false := by simp
    have hk13 := hk1.keep B12
    have hbr13 := hbr.keep B12
    have b0 := hbr13.cell 0
    have b1 := hbr13.cell 1
    have b2 := hbr13.cell 2
    have b3 := hbr13.cell 3
    simp at b0 b1 b2 b3
    go_wp2_with fail
    refine (toRow_any a1 a2 a3 a4 c1 c2 c3 c4 A C d w12 hsm hk13).mono ?_
    rintro e w14 ⟨rfl, own14, hb14, -⟩
    unfold ownRow
    have hip := implWants_any _ _ _ _ d.nN d.nF d.nO d.nW _ _ d w14 hsm own14.at
    clear b0 b1 b2 b3 hk13 hbr13 own14
    go_wp2_with fail
    refine hip.mono ?_
    rintro e w15 ⟨⟨ys, hys, ⟨sh, ch, rfl, hh⟩⟩, hb15⟩
    clear hip
    obtain rfl := hxs.one hys
    have hb15' : Below w12.heap.size w12 w15 := chain hb14 hb15
    have B15 : Below w1.heap.size w1 w15 := chain B12 hb15'
    have hw15 := hw12.keep hb15'
    have hg15 := hg12.keep hb15'
    clear hb14 hb15 hb15' hw12 hg12 B12 hys
    go_wp2_with fail
    refine (eqIntS_same sh s0 xs.length ch cs0 (fun k => xs.getD k 0) w15 (by omega) hh.sl hw15.sl).mono ?_
    rintro e w16 ⟨rfl, m16, hw16⟩
    have hb16 : Below w15.heap.size w15 w16 := by subst hw16; exact below_drewN (Below.refl _ _) _
    clear hw16
    have B16 : Below w1.heap.size w1 w16 := chain B15 hb16
    have hg16 := hg15.keep hb16
    clear hb16 hg15 hw15 hh B15
    go_wp2_with fail
    refine (heldIntS_any sg xs.length cg 1 w16 (by omega) (by omega) (by omega) hg16.sl).mono ?_
    rintro e w17 ⟨rfl, hw17⟩
    have hw17 := hw17.symm
    subst hw17
    have fin : Below w.heap.size w w16 := chain bel1 B16
    clear hg16 B16 hk1 hbr hxs bel1
    go_wp2
    go_ret
    exact ⟨rfl, fin⟩

end Go.Proofs.Ytachkoledebanaa
