/-
  Shows: the program's.
-/
import Derived.Test.YtachkoledebanaaGreatDoorBOf
import Derived.Test.YtachkoledebanaaGreatDoorOk2
import Derived.Test.YtachkoledebanaaGreatDoorWSD
namespace Go.Proofs.YtachkoledebanaaGreatDoor
open Go.RowKit Go.WideMaps Go.Maps

theorem Right.ways {d : RD} (h : Right d) : ∀ i, i < d.nN → -1 ≤ d.nx i ∧ d.nx i < d.nN := fun i hi => (h.w i hi).1

theorem settle_at {w w1 : World} {X : Nat} {A : BA} {d : RD} (hR : Right d) (h : BoardAt w X A d w1) : Calls Tryz.prog 47 #[.pointer (some ⟨X, 0, none⟩)] w1 fun e w' => e = .returned (.tuple #[]) ∧ Settled w1 X A d w' :=
  settle_any X A d w1 hR.s.nN hR.ways h.bk h.stat

theorem Settled.bel {w w1 w2 : World} {X : Nat} {A : BA} {d : RD} {sh : Nat → Int} {q : List Int} (h : BoardAt w X A d w1) (hB : Bd w1 X A d sh q w2) : Below w.heap.size w w2 := h.bel.trans (hB.on.below h.lo h.bel.size)

theorem Bd.ret {w1 w2 : World} {X lo : Nat} {A : BA} {d : RD} {sh : Nat → Int} {q : List Int} (hB : Bd w1 X A d sh q w2) (hl : lo ≤ w1.heap.size) : RetInts (.returned (.slice (some ⟨w1.heap.size, 0, none⟩) d.nN d.nN)) lo w2 (lst sh d.nN) :=
  RetInts.lst rfl (OwnS.ofRow hB.sh hl hB.size)

set_option maxHeartbeats 2000000 in
theorem implShows_any (a1 a2 a3 a4 : Option Addr) (c1 c2 c3 c4 : Nat) (A : Nat → Option Addr) (C : Nat → Nat) (d : RD) (w : World) (hs : Small d) (h : RowAt w a1 a2 a3 a4 A C d) :
    Calls Tryz.prog 25 #[.agg #[.slice a1 d.nN c1, .slice a2 d.nF c2, .slice a3 d.nO c3, .slice a4 d.nW c4]] w fun e w' =>
      (∃ xs, IsShows d xs ∧ RetInts e w.heap.size w' xs) ∧ Below w.heap.size w w' := by
  have bel : Below w.heap.size w (w.alloc (.cells #[.slice a1 d.nN c1, .slice a2 d.nF c2, .slice a3 d.nO c3, .slice a4 d.nW c4] 27)) := (Below.refl _ _).alloc (Nat.le_refl _) _
  have hk := h.keep bel
  have hbk := Blk.new w #[.slice a1 d.nN c1, .slice a2 d.nF c2, .slice a3 d.nO c3, .slice a4 d.nW c4] 27
  clear h
  go_enter Tryz.func25, Tryz.ntmps25
  go_wp2_with fail
  generalize (w.alloc (.cells #[.slice a1 d.nN c1, .slice a2 d.nF c2, .slice a3 d.nO c3, .slice a4 d.nW c4] 27)) = W at *
  refine (implRowOk_any a1 a2 a3 a4 c1 c2 c3 c4 A C d W hs hk).mono ?_
  rintro e w1 ⟨⟨r, rfl, hr⟩, hb1⟩
  have bel1 : Below w.heap.size w w1 := chain bel hb1
  by_cases hr0 : r = 0
  case neg =>
    have z : (r != 0) = true := by rw [bne_iff_ne]; exact hr0
    have HB : Hid (IsShows d []) := Or.inr ⟨fun u => hr0 (hr.zero u), rfl⟩
    clear hk hbk hb1 hr hs
    go_wp2
    go_ret
    exact ⟨⟨[], HB.out, .nil rfl⟩, bel1⟩
  subst hr0
  have hR : Hid (Right d) := hr.rt
  have z : ((0 : Int) != 0) = false := by simp
  have hk1 := hk.keep hb1
  have hbr := hbk.keep hb1
  have b0 := hbr.cell 0
  have b1 := hbr.cell 1
  have b2 := hbr.cell 2
  have b3 := hbr.cell 3
  simp at b0 b1 b2 b3
  clear hbk hk hb1 bel hr hbr hs
  go_wp2_with fail
  refine (boardOf_any a1 a2 a3 a4 c1 c2 c3 c4 A C d w1 hk1 hR.out).mono ?_
  rintro e w2 ⟨X, B, rfl, hA⟩
  have HA : Hid (BoardAt w1 X B d w2) := hA
  clear hk1 b0 b1 b2 b3 hA
  go_wp2_with fail
  refine (settle_at hR.out HA.out).mono ?_
  rintro e w3 ⟨rfl, sh, hl, hbd, hB⟩
  have bel3 : Below w.heap.size w w3 := chain bel1 (Settled.bel HA.out hB)
  have HI : Hid (IsShows d (lst sh d.nN)) := Or.inl ⟨hR.out, _, sh, hl, rfl⟩
  have HO : Hid (RetInts (.returned (.slice (some ⟨w2.heap.size, 0, none⟩) d.nN d.nN)) w.heap.size w3 (lst sh d.nN)) := hB.ret (Nat.le_trans bel1.size HA.out.bel.size)
  obtain ⟨qv, hX, -⟩ := hB.bk
  have x4 := hX.cell 4
  unfold bcells at x4
  simp at x4
  clear hB hl hbd HA hX bel1
  go_wp2
  go_ret
  exact ⟨⟨_, HI.out, HO.out⟩, bel3⟩

end Go.Proofs.YtachkoledebanaaGreatDoor
