/-
  Breaking: the program's.
-/
import Derived.Test.YtachkoledebanaaChg2
import Derived.Test.YtachkoledebanaaHas
import Derived.Deep.DeepCutAuto
namespace Go.Proofs.Ytachkoledebanaa
open Go.RowKit Go.WideMaps Go.Maps

set_option maxHeartbeats 2000000 in
theorem implBreaking_any (a1 a2 a3 a4 : Option Addr) (c1 c2 c3 c4 : Nat) (A : Nat → Option Addr) (C : Nat → Nat) (d : RD) (s l : Int) (w : World) (hs : Small d) (h : RowAt w a1 a2 a3 a4 A C d) :
    Calls Try.prog 26 #[.agg #[.slice a1 d.nN c1, .slice a2 d.nF c2, .slice a3 d.nO c3, .slice a4 d.nW c4], .int .i64 s, .int .i64 l] w fun e w' =>
      (∃ xs, IsBreaking d s l xs ∧ RetChg e w.heap.size w' xs) ∧ Below w.heap.size w w' := by
  have bel : Below w.heap.size w (w.alloc (.cells #[.slice a1 d.nN c1, .slice a2 d.nF c2, .slice a3 d.nO c3, .slice a4 d.nW c4] 27)) := (Below.refl _ _).alloc (Nat.le_refl _) _
  have hk := h.keep bel
  have hbk := Blk.new w #[.slice a1 d.nN c1, .slice a2 d.nF c2, .slice a3 d.nO c3, .slice a4 d.nW c4] 27
  clear h
  go_enter Try.func26, Try.ntmps26
  go_wp2_with fail
  generalize (w.alloc (.cells #[.slice a1 d.nN c1, .slice a2 d.nF c2, .slice a3 d.nO c3, .slice a4 d.nW c4] 27)) = W at *
  refine (hasSignal_any a1 a2 a3 a4 c1 c2 c3 c4 A C d s W hs hk).mono ?_
  rintro e w1 ⟨⟨bb, rfl, hsay⟩, hb1⟩
  have bel1 : Below w.heap.size w w1 := chain bel hb1
  cases bb with
  | false =>
    have HB : Hid (IsBreaking d s l []) := Or.inr ⟨(fun u => by have := hsay.2 ⟨u.1, u.2.1, u.2.2.1⟩; cases this), rfl⟩
    clear hk hbk hb1 hsay hs
    go_wp2
    go_ret
    exact ⟨⟨[], HB.out, .nil rfl⟩, bel1⟩
  | true =>
  have hR := hsay.1 rfl
  by_cases g3 : 0 ≤ l
  case neg =>
    have z3 : decide (l < 0) = true := by simp; omega
    have HB : Hid (IsBreaking d s l []) := Or.inr ⟨(fun u => g3 u.2.2.2.1), rfl⟩
    clear hk hbk hb1 hsay hs hR
    go_wp2
    go_ret
    exact ⟨⟨[], HB.out, .nil rfl⟩, bel1⟩
  have z3 : decide (l < 0) = false := by simp; omega
  by_cases g4 : l ≤ 3
  case neg =>
    have z4 : decide (4 ≤ l) = true := by simp; omega
    have HB : Hid (IsBreaking d s l []) := Or.inr ⟨(fun u => g4 u.2.2.2.2), rfl⟩
    clear hk hbk hb1 hsay hs hR
    go_wp2
    go_ret
    exact ⟨⟨[], HB.out, .nil rfl⟩, bel1⟩
  have z4 : decide (4 ≤ l) = false := by simp; omega
  have HR : Hid (Right d ∧ 0 ≤ s ∧ s < d.nN) := hR
  obtain ⟨-, g1, g2⟩ := hR
  obtain ⟨i, rfl⟩ : ∃ i : Nat, s = i := ⟨s.toNat, by omega⟩
  obtain ⟨j, rfl⟩ : ∃ j : Nat, l = j := ⟨l.toNat, by omega⟩
  have hk1 := hk.keep hb1
  have hbr := hbk.keep hb1
  have b0 := hbr.cell 0
  have b1 := hbr.cell 1
  have b2 := hbr.cell 2
  have b3 := hbr.cell 3
  simp at b0 b1 b2 b3
  clear hbk hk hb1 bel hsay hs
  go_wp2_with fail
  refine (boardOf_any a1 a2 a3 a4 c1 c2 c3 c4 A C d w1 hk1 HR.out.1).mono ?_
  rintro e w2 ⟨X, B, rfl, hA⟩
  have HA : Hid (BoardAt w1 X B d w2) := hA
  obtain ⟨bo, eo, q1, hbX, hc, hf, hrd⟩ := hA.brk (s := i) (l := j) (by omega)
  have bel2 : Below w1.heap.size w1 (w2.setCell ⟨bo, i, none⟩ (.int .u8 (enc (less (d.wk i) j)))) := hA.bel.setCell q1 _
  have HD : Hid (Ready (w2.setCell ⟨bo, i, none⟩ (.int .u8 (enc (less (d.wk i) j)))) X B (broken d i j)) := hrd
  have HK : Hid (RowAt w1 a1 a2 a3 a4 A C d) := hk1
  have HW : Hid (Blk w1 w.heap.size #[.slice a1 d.nN c1, .slice a2 d.nF c2, .slice a3 d.nO c3, .slice a4 d.nW c4] 27) := hbr
  have x2 := hA.bk.cell 3
  unfold bcells at x2
  rw [eo] at x2
  simp at x2
  have hwo := without_any (d.wk i) j (by omega)
  have hlo : w1.heap.size ≤ X := hA.lo
  clear hA hrd hbr hk1 z3 z4 b0 b1 b2 b3
  go_wp2_with fail
  go_cut [36] (fun _ wz => Ready wz X B (broken d i j) ∧ Below w1.heap.size w1 wz)
  case first =>
    go_region_with (go_at_call 55; refine (hwo _).mono ?_; rintro e w3 ⟨rfl, rfl⟩)
    all_goals
      go_wp2_with fail
      go_meet
      exact ⟨HD.out.keep (Below.refl _ _).drew, bel2.drew⟩
  case rest =>
  obtain ⟨hrd, bel3⟩ := hcut
  have hbb := HW.out.keep bel3
  have b0 := hbb.cell 0
  have b1 := hbb.cell 1
  have b2 := hbb.cell 2
  have b3 := hbb.cell 3
  simp at b0 b1 b2 b3
  have hct := changesTo_any a1 a2 a3 a4 c1 c2 c3 c4 A C d (broken d i j) X B wc (HK.out.keep bel3) HR.out.1 (HR.out.1.broken i j) rfl hrd
  have hz2 : w1.heap.size ≤ wc.heap.size := bel3.size
  clear hrd hbb bel2 HD
  go_wp2_with fail
  refine hct.mono ?_
  rintro e w4 ⟨⟨wn, sh, wn', sh', hl, hl', hret⟩, hb4⟩
  have HI : Hid (IsBreaking d i j (chg sh sh' d.nN)) := Or.inl ⟨HR.out.1, HR.out.2.1, HR.out.2.2, g3, g4, wn, sh, wn', sh', hl, hl', rfl⟩
  have HO : Hid (RetChg e w.heap.size w4 (chg sh sh' d.nN)) := hret.wide (Nat.le_trans bel1.size hz2)
  have bel4 : Below w.heap.size w w4 := bel1.trans ((bel3.mono bel1.size).trans (hb4.mono (Nat.le_trans bel1.size hlo)))
  obtain ⟨ao, cap, rfl, -⟩ := hret
  clear hl hl' hb4 hct bel3 HK HW HA b0 b1 b2 b3 hc hf x2
  go_wp2
  go_ret
  exact ⟨⟨_, HI.out, HO.out⟩, bel4⟩

end Go.Proofs.Ytachkoledebanaa
