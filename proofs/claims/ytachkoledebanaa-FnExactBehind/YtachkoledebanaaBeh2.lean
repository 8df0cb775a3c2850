/-
  Behind: the program's: a map of lists.
-/
import Derived.Test.YtachkoledebanaaGrp
import Derived.Test.YtachkoledebanaaBeh
import Derived.Test.YtachkoledebanaaHas
namespace Go.Proofs.Ytachkoledebanaa
open Go.RowKit Go.WideMaps Go.Maps
open Go.ChangeShapes (lits)

set_option maxHeartbeats 2000000 in
theorem implBehind_any (a1 a2 a3 a4 : Option Addr) (c1 c2 c3 c4 : Nat) (A : Nat → Option Addr) (C : Nat → Nat) (d : RD) (s : Int) (w : World) (hs : Small d) (h : RowAt w a1 a2 a3 a4 A C d) :
    Calls Try.prog 41 #[.agg #[.slice a1 d.nN c1, .slice a2 d.nF c2, .slice a3 d.nO c3, .slice a4 d.nW c4], .int .i64 s] w fun e w' =>
      (∃ xs, IsBehind d s xs ∧ RetInts e w.heap.size w' xs) ∧ Below w.heap.size w w' := by
  have bel : Below w.heap.size w (w.alloc (.cells #[.slice a1 d.nN c1, .slice a2 d.nF c2, .slice a3 d.nO c3, .slice a4 d.nW c4] 27)) := (Below.refl _ _).alloc (Nat.le_refl _) _
  have hk := h.keep bel
  have hbk := Blk.new w #[.slice a1 d.nN c1, .slice a2 d.nF c2, .slice a3 d.nO c3, .slice a4 d.nW c4] 27
  clear h
  go_enter Try.func41, Try.ntmps41
  go_wp2_with fail
  generalize (w.alloc (.cells #[.slice a1 d.nN c1, .slice a2 d.nF c2, .slice a3 d.nO c3, .slice a4 d.nW c4] 27)) = W at *
  refine (hasSignal_any a1 a2 a3 a4 c1 c2 c3 c4 A C d s W hs hk).mono ?_
  rintro e w1 ⟨⟨bb, rfl, hsay⟩, hb1⟩
  have bel1 : Below w.heap.size w w1 := chain bel hb1
  cases bb with
  | false =>
    have HB : Hid (IsBehind d s []) := Or.inr ⟨(fun u => by have := hsay.2 u; cases this), rfl⟩
    clear hk hbk hb1 hsay hs
    go_wp2
    go_ret
    exact ⟨⟨[], HB.out, .nil rfl⟩, bel1⟩
  | true =>
  have hR := hsay.1 rfl
  have HR : Hid (Right d ∧ 0 ≤ s ∧ s < d.nN) := hR
  have h60 := hR.1.s.nN
  obtain ⟨-, g1, g2⟩ := hR
  have hk1 := hk.keep hb1
  have hbr := hbk.keep hb1
  have b0 := hbr.cell 0
  have b1 := hbr.cell 1
  have b2 := hbr.cell 2
  have b3 := hbr.cell 3
  simp at b0 b1 b2 b3
  have hz1 := bel1.size
  clear hbk hk hb1 bel hbr hsay
  go_wp2_with fail
  refine (behindEach_any a1 a2 a3 a4 c1 c2 c3 c4 A C d w1 hk1 HR.out.1).mono ?_
  rintro e w2 ⟨rfl, hown, hb2⟩
  have bel2 : Below w.heap.size w w2 := chain bel1 hb2
  have hkey : keyOf Try.prog 3 (.int .i64 s) = some (.int .i64 s) := keyOf_int_mk Try.underlying3 (WalkArith.wf_i64 (by omega))
  clear hk1 b0 b1 b2 b3 hb2 bel1
  go_wp2_with (at_lookup; refine wpList_lookup_groups _ rfl _ _ 62 rfl 3 23 3 .i64 lawInt Try.underlying62 (zeroInts _) (w1.heap.size + 1 + 1) (w1.heap.size + 1) d.nN _ rfl hown (by unfold maxLen; omega) _ _ rfl hkey ?_; intro v zs hat hoi hzl hback)
  have hzs := Dm_found (by omega) hat hoi
  have HI : Hid (IsBehind d s zs) := Or.inl ⟨HR.out.1, HR.out.2.1, HR.out.2.2, hzs⟩
  have HO : Hid (RetInts (.returned v) w.heap.size w2 zs) := (RetInts.ofOwns rfl hoi.1).wide (by omega)
  clear hat hoi hzl hback hown hzs
  go_wp2
  go_ret
  exact ⟨⟨zs, HI.out, HO.out⟩, bel2⟩

end Go.Proofs.Ytachkoledebanaa
