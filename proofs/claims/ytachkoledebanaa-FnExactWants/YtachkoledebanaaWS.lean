/-
  Wants and Shows: the document's.
-/
import Derived.Test.YtachkoledebanaaWSD
namespace Go.Proofs.Ytachkoledebanaa
open Go.RowKit

set_option maxHeartbeats 2000000 in
theorem specWants_any (a1 a2 a3 a4 : Option Addr) (c1 c2 c3 c4 : Nat) (A : Nat → Option Addr) (C : Nat → Nat) (d : RD) (w : World) (hs : Small d) (h : RowAt w a1 a2 a3 a4 A C d) :
    Calls Try.prog 19 #[.agg #[.slice a1 d.nN c1, .slice a2 d.nF c2, .slice a3 d.nO c3, .slice a4 d.nW c4]] w fun e w' =>
      (∃ xs, IsWants d xs ∧ RetInts e w.heap.size w' xs) ∧ Below w.heap.size w w' := by
  have bel : Below w.heap.size w (w.alloc (.cells #[.slice a1 d.nN c1, .slice a2 d.nF c2, .slice a3 d.nO c3, .slice a4 d.nW c4] 27)) := (Below.refl _ _).alloc (Nat.le_refl _) _
  have hk := h.keep bel
  have hbk := Blk.new w #[.slice a1 d.nN c1, .slice a2 d.nF c2, .slice a3 d.nO c3, .slice a4 d.nW c4] 27
  clear h
  go_enter Try.func19, Try.ntmps19
  go_wp2_with fail
  generalize (w.alloc (.cells #[.slice a1 d.nN c1, .slice a2 d.nF c2, .slice a3 d.nO c3, .slice a4 d.nW c4] 27)) = W at *
  refine (specRowOk_any a1 a2 a3 a4 c1 c2 c3 c4 A C d W hs hk).mono ?_
  rintro e w1 ⟨⟨r, rfl, hr⟩, hb1⟩
  have bel1 : Below w.heap.size w w1 := chain bel hb1
  by_cases hr0 : r = 0
  case neg =>
    have z : (r != 0) = true := by rw [bne_iff_ne]; exact hr0
    have HB : Hid (IsWants d []) := Or.inr ⟨fun u => hr0 (hr.zero u), rfl⟩
    clear hk hbk hb1 hr hs
    go_wp2
    go_ret
    exact ⟨⟨[], HB.out, .nil rfl⟩, bel1⟩
  subst hr0
  have hR : Hid (Right d) := hr.rt
  have z : ((0 : Int) != 0) = false := by simp
  have hk1 := hk.keep hb1
  have hbr := hbk.keep hb1
  have b0 := hbr.cell 0
  have b1 := hbr.cell 1
  have b2 := hbr.cell 2
  have b3 := hbr.cell 3
  simp at b0 b1 b2 b3
  clear hbk hk hb1 bel hr hbr hs
  go_wp2_with fail
  refine (l2both_any a1 a2 a3 a4 c1 c2 c3 c4 A C d w1 hk1 hR.out).mono ?_
  rintro e w2 ⟨⟨wn, sh, hl, ⟨ao, ca, bo, cb, rfl, hao, hbo⟩⟩, hb2⟩
  have bel2 : Below w.heap.size w w2 := chain bel1 hb2
  have HI : Hid (IsWants d (lst wn d.nN)) := Or.inl ⟨hR.out, wn, sh, hl, rfl⟩
  have HO : Hid (RetInts (.returned (.slice ao d.nN ca)) w.heap.size w2 (lst wn d.nN)) := (RetInts.lst rfl hao).wide bel1.size
  clear hk1 b0 b1 b2 b3 hb2 hao hbo hl
  go_wp2
  go_ret
  exact ⟨⟨_, HI.out, HO.out⟩, bel2⟩

set_option maxHeartbeats 2000000 in
theorem specShows_any (a1 a2 a3 a4 : Option Addr) (c1 c2 c3 c4 : Nat) (A : Nat → Option Addr) (C : Nat → Nat) (d : RD) (w : World) (hs : Small d) (h : RowAt w a1 a2 a3 a4 A C d) :
    Calls Try.prog 17 #[.agg #[.slice a1 d.nN c1, .slice a2 d.nF c2, .slice a3 d.nO c3, .slice a4 d.nW c4]] w fun e w' =>
      (∃ xs, IsShows d xs ∧ RetInts e w.heap.size w' xs) ∧ Below w.heap.size w w' := by
  have bel : Below w.heap.size w (w.alloc (.cells #[.slice a1 d.nN c1, .slice a2 d.nF c2, .slice a3 d.nO c3, .slice a4 d.nW c4] 27)) := (Below.refl _ _).alloc (Nat.le_refl _) _
  have hk := h.keep bel
  have hbk := Blk.new w #[.slice a1 d.nN c1, .slice a2 d.nF c2, .slice a3 d.nO c3, .slice a4 d.nW c4] 27
  clear h
  go_enter Try.func17, Try.ntmps17
  go_wp2_with fail
  generalize (w.alloc (.cells #[.slice a1 d.nN c1, .slice a2 d.nF c2, .slice a3 d.nO c3, .slice a4 d.nW c4] 27)) = W at *
  refine (specRowOk_any a1 a2 a3 a4 c1 c2 c3 c4 A C d W hs hk).mono ?_
  rintro e w1 ⟨⟨r, rfl, hr⟩, hb1⟩
  have bel1 : Below w.heap.size w w1 := chain bel hb1
  by_cases hr0 : r = 0
  case neg =>
    have z : (r != 0) = true := by rw [bne_iff_ne]; exact hr0
    have HB : Hid (IsShows d []) := Or.inr ⟨fun u => hr0 (hr.zero u), rfl⟩
    clear hk hbk hb1 hr hs
    go_wp2
    go_ret
    exact ⟨⟨[], HB.out, .nil rfl⟩, bel1⟩
  subst hr0
  have hR : Hid (Right d) := hr.rt
  have z : ((0 : Int) != 0) = false := by simp
  have hk1 := hk.keep hb1
  have hbr := hbk.keep hb1
  have b0 := hbr.cell 0
  have b1 := hbr.cell 1
  have b2 := hbr.cell 2
  have b3 := hbr.cell 3
  simp at b0 b1 b2 b3
  clear hbk hk hb1 bel hr hbr hs
  go_wp2_with fail
  refine (l2both_any a1 a2 a3 a4 c1 c2 c3 c4 A C d w1 hk1 hR.out).mono ?_
  rintro e w2 ⟨⟨wn, sh, hl, ⟨ao, ca, bo, cb, rfl, hao, hbo⟩⟩, hb2⟩
  have bel2 : Below w.heap.size w w2 := chain bel1 hb2
  have HI : Hid (IsShows d (lst sh d.nN)) := Or.inl ⟨hR.out, wn, sh, hl, rfl⟩
  have HO : Hid (RetInts (.returned (.slice bo d.nN cb)) w.heap.size w2 (lst sh d.nN)) := (RetInts.lst rfl hbo).wide bel1.size
  clear hk1 b0 b1 b2 b3 hb2 hao hbo hl
  go_wp2
  go_ret
  exact ⟨⟨_, HI.out, HO.out⟩, bel2⟩

end Go.Proofs.Ytachkoledebanaa
