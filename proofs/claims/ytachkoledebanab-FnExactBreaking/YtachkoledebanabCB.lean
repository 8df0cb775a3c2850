/-
  Closing and Breaking: the document's.
-/
import Derived.Test.YtachkoledebanabCopy2
namespace Go.Proofs.Ytachkoledebanab
open Go.RowKit

theorem Cp.alloc {w : World} {B : Nat} {a1 a2 a3 a4 : Option Addr} {A : Nat → Option Addr} {C : Nat → Nat} {d : RD} (h : Cp w B a1 a2 a3 a4 A C d) (o : Obj) : Cp (w.alloc o) B a1 a2 a3 a4 A C d := by
  obtain ⟨B2, B3, L, h1, h2, o1, o2, o3, o4, o5, hm, h0⟩ := h
  exact ⟨B2, B3, L, h1, h2, o1.alloc o, o2.alloc o, o3.alloc o, (o4.alloc o).wide (Nat.le_refl _) (by simp), fun i hi => (o5 i hi).alloc o, hm, h0⟩

set_option maxHeartbeats 4000000 in
theorem specClosing_any (x1 x2 x3 x4 : Addr) (c1 c2 c3 c4 : Nat) (X : Nat → Addr) (C : Nat → Nat) (d : RD) (s : Int) (w : World) (hs : Small d) (h : RowAt w (some x1) (some x2) (some x3) (some x4) (fun i => some (X i)) C d) :
    Calls Try.prog 9 #[.agg #[.slice (some x1) d.nN c1, .slice (some x2) d.nF c2, .slice (some x3) d.nO c3, .slice (some x4) d.nW c4], .int .i64 s] w fun e w' =>
      (∃ xs, IsClosing d s xs ∧ RetChg e w.heap.size w' xs) ∧ Below w.heap.size w w' := by
  have bel : Below w.heap.size w (w.alloc (.cells #[.slice (some x1) d.nN c1, .slice (some x2) d.nF c2, .slice (some x3) d.nO c3, .slice (some x4) d.nW c4] 30)) := (Below.refl _ _).alloc (Nat.le_refl _) _
  have hk := h.keep bel
  have hbk := Blk.new w #[.slice (some x1) d.nN c1, .slice (some x2) d.nF c2, .slice (some x3) d.nO c3, .slice (some x4) d.nW c4] 30
  clear h
  go_enter Try.func9, Try.ntmps9
  go_wp2_with fail
  generalize (w.alloc (.cells #[.slice (some x1) d.nN c1, .slice (some x2) d.nF c2, .slice (some x3) d.nO c3, .slice (some x4) d.nW c4] 30)) = W at *
  refine (specRowOk_any (some x1) (some x2) (some x3) (some x4) c1 c2 c3 c4 _ C d W hs hk).mono ?_
  rintro e w1 ⟨⟨r, rfl, hr⟩, hb1⟩
  have bel1 : Below w.heap.size w w1 := chain bel hb1
  by_cases hr0 : r = 0
  case neg =>
    have z : (r != 0) = true := by rw [bne_iff_ne]; exact hr0
    have HB : Hid (IsClosing d s []) := Or.inr ⟨fun u => hr0 (hr.zero u.1), rfl⟩
    clear hk hbk hb1 hr hs
    go_wp2
    go_ret
    exact ⟨⟨[], HB.out, .nil rfl⟩, bel1⟩
  subst hr0
  have hR : Hid (Right d) := hr.rt
  have h60 : d.nN ≤ 60 := hR.out.s.nN
  have z : ((0 : Int) != 0) = false := by simp
  have hk1 := hk.keep hb1
  have hbr := hbk.keep hb1
  have b0 := hbr.cell 0
  have b1 := hbr.cell 1
  have b2 := hbr.cell 2
  have b3 := hbr.cell 3
  simp at b0 b1 b2 b3
  clear hbk hk hb1 bel hr hs
  by_cases g1 : 0 ≤ s
  case neg =>
    have HB : Hid (IsClosing d s []) := Or.inr ⟨fun u => g1 u.2.1, rfl⟩
    clear hk1 hbr
    go_wp2
    go_ret
    exact ⟨⟨[], HB.out, .nil rfl⟩, bel1⟩
  by_cases g2 : s < d.nN
  case neg =>
    have HB : Hid (IsClosing d s []) := Or.inr ⟨fun u => g2 u.2.2, rfl⟩
    have z2 : decide (s ≤ (d.nN : Int) - 1) = false := by simp; omega
    clear hk1 hbr
    go_wp2
    go_ret
    exact ⟨⟨[], HB.out, .nil rfl⟩, bel1⟩
  have z2 : decide (s ≤ (d.nN : Int) - 1) = true := by simp; omega
  have hbs : w.heap.size < w1.heap.size := hbr.lt
  have hsO : s.toNat < d.nO := by rw [hR.out.s.nO]; omega
  have hsO2 : s < (d.nO : Int) := by omega
  go_wp2_with (go_at_call 29; go_in)
  refine (l2copy_any x1 x2 x3 x4 c1 c2 c3 c4 X C d w1 hk1 hR.out).mono ?_
  rintro e w2 ⟨⟨a1, k1, a2, k2, a3, k3, a4, k4, A, K, rfl, hcp⟩, hb2⟩
  have bel2 : Below w.heap.size w w2 := chain bel1 hb2
  obtain ⟨b, rfl, hb, hc, hf, hrow⟩ := hcp.close hsO
  have hbl := block_lt_of_cell hc
  simp only at hbl
  have hst : Below w1.heap.size w1 (w2.setCell ⟨b, s.toNat, none⟩ (.bool false)) := hb2.setCell (by show w1.heap.size ≤ b; omega) _
  have hal : Below (w2.setCell ⟨b, s.toNat, none⟩ (.bool false)).heap.size (w2.setCell ⟨b, s.toNat, none⟩ (.bool false)) ((w2.setCell ⟨b, s.toNat, none⟩ (.bool false)).alloc (.cells #[.slice a1 d.nN k1, .slice a2 d.nF k2, .slice (some ⟨b, 0, none⟩) d.nO k3, .slice a4 d.nW k4] 30)) := (Below.refl _ _).alloc (Nat.le_refl _) _
  have hall : Below w1.heap.size w1 ((w2.setCell ⟨b, s.toNat, none⟩ (.bool false)).alloc (.cells #[.slice a1 d.nN k1, .slice a2 d.nF k2, .slice (some ⟨b, 0, none⟩) d.nO k3, .slice a4 d.nW k4] 30)) := chain hst hal
  have bel3 : Below w.heap.size w ((w2.setCell ⟨b, s.toNat, none⟩ (.bool false)).alloc (.cells #[.slice a1 d.nN k1, .slice a2 d.nF k2, .slice (some ⟨b, 0, none⟩) d.nO k3, .slice a4 d.nW k4] 30)) := chain bel1 hall
  have hk3 := hk1.keep hall
  have hrow3 := hrow.keep hal
  have hb2' := hbr.keep hb2
  have b0' := hb2'.cell 0
  have b1' := hb2'.cell 1
  have b2' := hb2'.cell 2
  have b3' := hb2'.cell 3
  simp at b0' b1' b2' b3'
  have hNz : w.heap.size < w2.heap.size := hb2'.lt
  have hne1 : b ≠ w.heap.size := by omega
  have hne2 : b ≠ w2.heap.size := by omega
  clear b0 b1 b2 b3 hcp hal hb2 hst hall hrow hk1 hb2' hbr
  go_wp2_with fail
  refine (l2changes_any (some x1) (some x2) (some x3) (some x4) a1 a2 (some ⟨b, 0, none⟩) a4 c1 c2 c3 c4 k1 k2 k3 k4 (fun i => some (X i)) A C K d (closed d s.toNat) _ hk3 hrow3 hR.out (hR.out.closed _) rfl).mono ?_
  rintro e w3 ⟨⟨wn, sh, wn', sh', hl, hl', hret⟩, hb3⟩
  have bel4 : Below w.heap.size w w3 := chain bel3 hb3
  obtain ⟨ao, cap, rfl, hoc⟩ := hret
  have HI : Hid (IsClosing d s (chg sh sh' d.nN)) := Or.inl ⟨hR.out, g1, g2, wn, sh, wn', sh', hl, hl', rfl⟩
  have HO : Hid (RetChg (.returned (.slice ao (chg sh sh' d.nN).length cap)) w.heap.size w3 (chg sh sh' d.nN)) := ⟨ao, cap, rfl, hoc.wide bel3.size (Nat.le_refl _)⟩
  clear hk3 hrow3 hb3 hl hl' hoc bel3
  go_wp2
  go_ret
  exact ⟨⟨_, HI.out, HO.out⟩, bel4⟩

set_option maxHeartbeats 4000000 in
theorem specBreaking_any (x1 x2 x3 x4 : Addr) (c1 c2 c3 c4 : Nat) (X : Nat → Addr) (C : Nat → Nat) (d : RD) (s l : Int) (w : World) (hs : Small d) (h : RowAt w (some x1) (some x2) (some x3) (some x4) (fun i => some (X i)) C d) :
    Calls Try.prog 17 #[.agg #[.slice (some x1) d.nN c1, .slice (some x2) d.nF c2, .slice (some x3) d.nO c3, .slice (some x4) d.nW c4], .int .i64 s, .int .i64 l] w fun e w' =>
      (∃ xs, IsBreaking d s l xs ∧ RetChg e w.heap.size w' xs) ∧ Below w.heap.size w w' := by
  have bel : Below w.heap.size w (w.alloc (.cells #[.slice (some x1) d.nN c1, .slice (some x2) d.nF c2, .slice (some x3) d.nO c3, .slice (some x4) d.nW c4] 30)) := (Below.refl _ _).alloc (Nat.le_refl _) _
  have hk := h.keep bel
  have hbk := Blk.new w #[.slice (some x1) d.nN c1, .slice (some x2) d.nF c2, .slice (some x3) d.nO c3, .slice (some x4) d.nW c4] 30
  clear h
  go_enter Try.func17, Try.ntmps17
  go_wp2_with fail
  generalize (w.alloc (.cells #[.slice (some x1) d.nN c1, .slice (some x2) d.nF c2, .slice (some x3) d.nO c3, .slice (some x4) d.nW c4] 30)) = W at *
  refine (specRowOk_any (some x1) (some x2) (some x3) (some x4) c1 c2 c3 c4 _ C d W hs hk).mono ?_
  rintro e w1 ⟨⟨r, rfl, hr⟩, hb1⟩
  have bel1 : Below w.heap.size w w1 := chain bel hb1
  by_cases hr0 : r = 0
  case neg =>
    have z : (r != 0) = true := by rw [bne_iff_ne]; exact hr0
    have HB : Hid (IsBreaking d s l []) := Or.inr ⟨fun u => hr0 (hr.zero u.1), rfl⟩
    clear hk hbk hb1 hr hs
    go_wp2
    go_ret
    exact ⟨⟨[], HB.out, .nil rfl⟩, bel1⟩
  subst hr0
  have hR : Hid (Right d) := hr.rt
  have h60 : d.nN ≤ 60 := hR.out.s.nN
  have z : ((0 : Int) != 0) = false := by simp
  have hk1 := hk.keep hb1
  have hbr := hbk.keep hb1
  have b0 := hbr.cell 0
  have b1 := hbr.cell 1
  have b2 := hbr.cell 2
  have b3 := hbr.cell 3
  simp at b0 b1 b2 b3
  clear hbk hk hb1 bel hr hs
  by_cases g1 : 0 ≤ s
  case neg =>
    have HB : Hid (IsBreaking d s l []) := Or.inr ⟨fun u => g1 u.2.1, rfl⟩
    clear hk1 hbr
    go_wp2
    go_ret
    exact ⟨⟨[], HB.out, .nil rfl⟩, bel1⟩
  by_cases g2 : s < d.nN
  case neg =>
    have HB : Hid (IsBreaking d s l []) := Or.inr ⟨fun u => g2 u.2.2.1, rfl⟩
    have z2 : decide (s ≤ (d.nN : Int) - 1) = false := by simp; omega
    clear hk1 hbr
    go_wp2
    go_ret
    exact ⟨⟨[], HB.out, .nil rfl⟩, bel1⟩
  have z2 : decide (s ≤ (d.nN : Int) - 1) = true := by simp; omega
  by_cases g3 : 0 ≤ l
  case neg =>
    have HB : Hid (IsBreaking d s l []) := Or.inr ⟨fun u => g3 u.2.2.2.1, rfl⟩
    clear hk1 hbr
    go_wp2
    go_ret
    exact ⟨⟨[], HB.out, .nil rfl⟩, bel1⟩
  by_cases g4 : l ≤ 3
  case neg =>
    have HB : Hid (IsBreaking d s l []) := Or.inr ⟨fun u => g4 u.2.2.2.2, rfl⟩
    have z4 : decide (l ≤ 3) = false := by simp; omega
    clear hk1 hbr
    go_wp2
    go_ret
    exact ⟨⟨[], HB.out, .nil rfl⟩, bel1⟩
  have hbs : w.heap.size < w1.heap.size := hbr.lt
  have hsO : s.toNat < d.nW := by rw [hR.out.s.nW]; omega
  have hsO2 : s < (d.nW : Int) := by omega
  have hL4 := hR.out.l s.toNat hsO
  have hlL : l.toNat < d.L s.toNat := by rw [hL4]; omega
  have hl4 : l < ((4 : Nat) : Int) := by omega
  go_wp2_with (go_at_call 29; go_in)
  refine (l2copy_any x1 x2 x3 x4 c1 c2 c3 c4 X C d w1 hk1 hR.out).mono ?_
  rintro e w2 ⟨⟨a1, k1, a2, k2, a3, k3, a4, k4, A, K, rfl, hcp⟩, hb2⟩
  have bel2 : Below w.heap.size w w2 := chain bel1 hb2
  obtain ⟨b4, b, rfl, hc4, eA, hb, hc, hf, hrow⟩ := hcp.brk hsO hlL
  rw [hL4, eA] at hc4
  have hb4l := block_lt_of_cell hc4
  simp only at hb4l
  have hbl := block_lt_of_cell hc
  simp only at hbl
  have hst : Below w1.heap.size w1 (w2.setCell ⟨b, l.toNat, none⟩ (.bool false)) := hb2.setCell (by show w1.heap.size ≤ b; omega) _
  have hal : Below (w2.setCell ⟨b, l.toNat, none⟩ (.bool false)).heap.size (w2.setCell ⟨b, l.toNat, none⟩ (.bool false)) ((w2.setCell ⟨b, l.toNat, none⟩ (.bool false)).alloc (.cells #[.slice a1 d.nN k1, .slice a2 d.nF k2, .slice a3 d.nO k3, .slice (some ⟨b4, 0, none⟩) d.nW k4] 30)) := (Below.refl _ _).alloc (Nat.le_refl _) _
  have hall : Below w1.heap.size w1 ((w2.setCell ⟨b, l.toNat, none⟩ (.bool false)).alloc (.cells #[.slice a1 d.nN k1, .slice a2 d.nF k2, .slice a3 d.nO k3, .slice (some ⟨b4, 0, none⟩) d.nW k4] 30)) := chain hst hal
  have bel3 : Below w.heap.size w ((w2.setCell ⟨b, l.toNat, none⟩ (.bool false)).alloc (.cells #[.slice a1 d.nN k1, .slice a2 d.nF k2, .slice a3 d.nO k3, .slice (some ⟨b4, 0, none⟩) d.nW k4] 30)) := chain bel1 hall
  have hk3 := hk1.keep hall
  have hrow3 := hrow.keep hal
  have hb2' := hbr.keep hb2
  have b0' := hb2'.cell 0
  have b1' := hb2'.cell 1
  have b2' := hb2'.cell 2
  have b3' := hb2'.cell 3
  simp at b0' b1' b2' b3'
  have hNz : w.heap.size < w2.heap.size := hb2'.lt
  have hne1 : b ≠ w.heap.size := by omega
  have hne2 : b ≠ w2.heap.size := by omega
  have hne3 : b4 ≠ w2.heap.size := by omega
  clear b0 b1 b2 b3 hcp hal hb2 hst hall hrow hk1 hb2' hbr
  go_wp2_with fail
  refine (l2changes_any (some x1) (some x2) (some x3) (some x4) a1 a2 a3 (some ⟨b4, 0, none⟩) c1 c2 c3 c4 k1 k2 k3 k4 (fun i => some (X i)) A C K d (broken d s.toNat l.toNat) _ hk3 hrow3 hR.out (hR.out.broken _ _) rfl).mono ?_
  rintro e w3 ⟨⟨wn, sh, wn', sh', hl, hl', hret⟩, hb3⟩
  have bel4 : Below w.heap.size w w3 := chain bel3 hb3
  obtain ⟨ao, cap, rfl, hoc⟩ := hret
  have HI : Hid (IsBreaking d s l (chg sh sh' d.nN)) := Or.inl ⟨hR.out, g1, g2, g3, g4, wn, sh, wn', sh', hl, hl', rfl⟩
  have HO : Hid (RetChg (.returned (.slice ao (chg sh sh' d.nN).length cap)) w.heap.size w3 (chg sh sh' d.nN)) := ⟨ao, cap, rfl, hoc.wide bel3.size (Nat.le_refl _)⟩
  clear hk3 hrow3 hb3 hl hl' hoc bel3
  go_wp2
  go_ret
  exact ⟨⟨_, HI.out, HO.out⟩, bel4⟩

end Go.Proofs.Ytachkoledebanab
