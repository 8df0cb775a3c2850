/-
  Closing: the program's.
-/
import Derived.Test.YtachkoledebanaaChg2
import Derived.Test.YtachkoledebanaaHas
namespace Go.Proofs.Ytachkoledebanaa
open Go.RowKit Go.WideMaps Go.Maps

set_option maxHeartbeats 2000000 in
theorem implClosing_any (a1 a2 a3 a4 : Option Addr) (c1 c2 c3 c4 : Nat) (A : Nat → Option Addr) (C : Nat → Nat) (d : RD) (s : Int) (w : World) (hs : Small d) (h : RowAt w a1 a2 a3 a4 A C d) :
    Calls Try.prog 25 #[.agg #[.slice a1 d.nN c1, .slice a2 d.nF c2, .slice a3 d.nO c3, .slice a4 d.nW c4], .int .i64 s] w fun e w' =>
      (∃ xs, IsClosing d s xs ∧ RetChg e w.heap.size w' xs) ∧ Below w.heap.size w w' := by
  have bel : Below w.heap.size w (w.alloc (.cells #[.slice a1 d.nN c1, .slice a2 d.nF c2, .slice a3 d.nO c3, .slice a4 d.nW c4] 27)) := (Below.refl _ _).alloc (Nat.le_refl _) _
  have hk := h.keep bel
  have hbk := Blk.new w #[.slice a1 d.nN c1, .slice a2 d.nF c2, .slice a3 d.nO c3, .slice a4 d.nW c4] 27
  clear h
  go_enter Try.func25, Try.ntmps25
  go_wp2_with fail
  generalize (w.alloc (.cells #[.slice a1 d.nN c1, .slice a2 d.nF c2, .slice a3 d.nO c3, .slice a4 d.nW c4] 27)) = W at *
  refine (hasSignal_any a1 a2 a3 a4 c1 c2 c3 c4 A C d s W hs hk).mono ?_
  rintro e w1 ⟨⟨bb, rfl, hsay⟩, hb1⟩
  have bel1 : Below w.heap.size w w1 := chain bel hb1
  cases bb with
  | false =>
    have HB : Hid (IsClosing d s []) := Or.inr ⟨(fun u => by have := hsay.2 u; cases this), rfl⟩
    clear hk hbk hb1 hsay hs
    go_wp2
    go_ret
    exact ⟨⟨[], HB.out, .nil rfl⟩, bel1⟩
  | true =>
  have hR := hsay.1 rfl
  have HR : Hid (Right d ∧ 0 ≤ s ∧ s < d.nN) := hR
  obtain ⟨-, g1, g2⟩ := hR
  obtain ⟨i, rfl⟩ : ∃ i : Nat, s = i := ⟨s.toNat, by omega⟩
  have hk1 := hk.keep hb1
  have hbr := hbk.keep hb1
  have b0 := hbr.cell 0
  have b1 := hbr.cell 1
  have b2 := hbr.cell 2
  have b3 := hbr.cell 3
  simp at b0 b1 b2 b3
  clear hbk hk hb1 bel hsay hs
  go_wp2_with fail
  refine (boardOf_any a1 a2 a3 a4 c1 c2 c3 c4 A C d w1 hk1 HR.out.1).mono ?_
  rintro e w2 ⟨X, B, rfl, hA⟩
  have HA : Hid (BoardAt w1 X B d w2) := hA
  obtain ⟨bo, eo, q1, hc, hf, hrd⟩ := hA.close (s := i) (by omega)
  have bel2 : Below w1.heap.size w1 (w2.setCell ⟨bo, i, none⟩ (.bool false)) := hA.bel.setCell q1 _
  have HK : Hid (RowAt (w2.setCell ⟨bo, i, none⟩ (.bool false)) a1 a2 a3 a4 A C d) := hk1.keep bel2
  have HD : Hid (Ready (w2.setCell ⟨bo, i, none⟩ (.bool false)) X B (closed d i)) := hrd
  have x2 := hA.bk.cell 2
  unfold bcells at x2
  rw [eo] at x2
  simp at x2
  have hbb := hbr.keep bel2
  clear b0 b1 b2 b3
  have b0 := hbb.cell 0
  have b1 := hbb.cell 1
  have b2 := hbb.cell 2
  have b3 := hbb.cell 3
  simp only [List.getElem?_toArray, List.getElem?_cons_succ, List.getElem?_cons_zero] at b0 b1 b2 b3
  have hct := changesTo_any a1 a2 a3 a4 c1 c2 c3 c4 A C d (closed d i) X B _ HK.out HR.out.1 (HR.out.1.closed i) rfl HD.out
  have hlo : w1.heap.size ≤ X := hA.lo
  have hz2 : w1.heap.size ≤ (w2.setCell ⟨bo, i, none⟩ (.bool false)).heap.size := bel2.size
  clear hA hrd hbr hk1 hbb
  go_wp2_with fail
  refine hct.mono ?_
  rintro e w4 ⟨⟨wn, sh, wn', sh', hl, hl', hret⟩, hb4⟩
  have HI : Hid (IsClosing d i (chg sh sh' d.nN)) := Or.inl ⟨HR.out.1, HR.out.2.1, HR.out.2.2, wn, sh, wn', sh', hl, hl', rfl⟩
  have HO : Hid (RetChg e w.heap.size w4 (chg sh sh' d.nN)) := hret.wide (Nat.le_trans bel1.size hz2)
  have bel4 : Below w.heap.size w w4 := bel1.trans ((bel2.mono bel1.size).trans (hb4.mono (Nat.le_trans bel1.size hlo)))
  obtain ⟨ao, cap, rfl, -⟩ := hret
  clear hl hl' hb4 hct bel2 HD HK HA b0 b1 b2 b3 hc hf x2
  go_wp2
  go_ret
  exact ⟨⟨_, HI.out, HO.out⟩, bel4⟩

end Go.Proofs.Ytachkoledebanaa
