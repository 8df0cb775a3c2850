/-
  hasSignal: the program's.
-/
import Derived.Test.YtachkoledebanaaOk2
import Derived.Test.YtachkoledebanaaRet
namespace Go.Proofs.Ytachkoledebanaa
open Go.RowKit

set_option maxHeartbeats 2000000 in
theorem hasSignal_any (a1 a2 a3 a4 : Option Addr) (c1 c2 c3 c4 : Nat) (A : Nat → Option Addr) (C : Nat → Nat) (d : RD) (s : Int) (w : World) (hs : Small d) (h : RowAt w a1 a2 a3 a4 A C d) :
    Calls Try.prog 53 #[.agg #[.slice a1 d.nN c1, .slice a2 d.nF c2, .slice a3 d.nO c3, .slice a4 d.nW c4], .int .i64 s] w fun e w' =>
      RetB e (Right d ∧ 0 ≤ s ∧ s < d.nN) ∧ Below w.heap.size w w' := by
  have bel : Below w.heap.size w (w.alloc (.cells #[.slice a1 d.nN c1, .slice a2 d.nF c2, .slice a3 d.nO c3, .slice a4 d.nW c4] 27)) := (Below.refl _ _).alloc (Nat.le_refl _) _
  have hk := h.keep bel
  have hbk := Blk.new w #[.slice a1 d.nN c1, .slice a2 d.nF c2, .slice a3 d.nO c3, .slice a4 d.nW c4] 27
  clear h
  go_enter Try.func53, Try.ntmps53
  go_wp2_with fail
  generalize (w.alloc (.cells #[.slice a1 d.nN c1, .slice a2 d.nF c2, .slice a3 d.nO c3, .slice a4 d.nW c4] 27)) = W at *
  refine (implRowOk_any a1 a2 a3 a4 c1 c2 c3 c4 A C d W hs hk).mono ?_
  rintro e w1 ⟨⟨r, rfl, hr⟩, hb1⟩
  have bel1 : Below w.heap.size w w1 := chain bel hb1
  by_cases hr0 : r = 0
  case neg =>
    have z : (r == 0) = false := by rw [beq_eq_false_iff_ne]; exact hr0
    have HB : Hid (¬ (Right d ∧ 0 ≤ s ∧ s < d.nN)) := fun u => hr0 (hr.zero u.1)
    clear hk hbk hb1 hr hs hr0
    go_wp2
    go_ret
    exact ⟨.mk false rfl (.no HB.out), bel1⟩
  subst hr0
  have hR : Hid (Right d) := hr.rt
  have h60 : d.nN ≤ 1048576 := hs.nN
  have z : ((0 : Int) == 0) = true := by simp
  have hbr := hbk.keep hb1
  have b0 := hbr.cell 0
  have b1 := hbr.cell 1
  have b2 := hbr.cell 2
  have b3 := hbr.cell 3
  simp at b0 b1 b2 b3
  clear hbk hk hb1 bel hr hbr hs
  go_wp2_with fail
  refine (isNumberIn_any a1 a2 a3 a4 c1 c2 c3 c4 d s w1 h60).mono ?_
  rintro e w2 ⟨⟨bb, rfl, hsay⟩, hb2⟩
  have bel2 : Below w.heap.size w w2 := chain bel1 hb2
  have HB : Hid (Says bb (Right d ∧ 0 ≤ s ∧ s < d.nN)) := ⟨fun e => ⟨hR.out, hsay.1 e⟩, fun k => hsay.2 k.2⟩
  clear hb2 bel1 b0 b1 b2 b3 hsay
  go_wp2
  go_ret
  exact ⟨.mk bb rfl HB.out, bel2⟩

end Go.Proofs.Ytachkoledebanaa
