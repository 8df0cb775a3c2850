/-
  ReadRow: the document's, by what a line's reading hands back.
-/
import Derived.Test.YtachkoledebanabGreatDoorBckEtc
import Derived.Test.YtachkoledebanabGreatDoorWriEtc
import Derived.Test.YtachkoledebanabGreatDoorAns
import Derived.Deep.RegionLaw
import Derived.Deep.AppendLies
import Derived.Deep.DeepCutAuto
namespace Go.Proofs.YtachkoledebanabGreatDoor
open Go.RowKit

/-- a signal's row, as a line's reading lays it: in blocks from lo on -/
structure XL (lo : Nat) (g : Sg) (p1 p2 p3 p4 bw cw : Nat) (w : World) : Prop where
  k1 : Blk w p1 #[.int .i64 g.nx] 3
  k2 : Blk w p2 #[.int .i64 g.fr] 3
  k3 : Blk w p3 #[.bool g.op] 4
  k4 : Blk w p4 #[.slice (some ⟨bw, 0, none⟩) 4 cw] 23
  lm : w.ownsRow lo 4 1 (.slice (some ⟨bw, 0, none⟩) 4 cw) 4 (lampV g)
  l1 : lo ≤ p1
  l2 : lo ≤ p2
  l3 : lo ≤ p3
  l4 : lo ≤ p4
/-- what a line's reading hands back -/
def RetSig (l : List UInt8) (lo : Nat) (e : Ending) (w' : World) : Prop :=
  (∃ g p1 p2 p3 p4 bw cw, IsLine l g ∧ e = .returned (.tuple #[.agg #[.slice (some ⟨p1, 0, none⟩) 1 1, .slice (some ⟨p2, 0, none⟩) 1 1, .slice (some ⟨p3, 0, none⟩) 1 1, .slice (some ⟨p4, 0, none⟩) 1 1], .bool true]) ∧ XL lo g p1 p2 p3 p4 bw cw w') ∨
    ((∀ g, ¬ IsLine l g) ∧ ∃ b1 b2 b3 b4 n1 n2 n3 n4 d1 d2 d3 d4, e = .returned (.tuple #[.agg #[.slice b1 n1 d1, .slice b2 n2 d2, .slice b3 n3 d3, .slice b4 n4 d4], .bool false]))

/-- .. and the box in which it is kept -/
structure XS (lo : Nat) (g : Sg) (X p1 p2 p3 p4 bw cw : Nat) (w : World) : Prop where
  xl : XL lo g p1 p2 p3 p4 bw cw w
  bx : Blk w X #[.slice (some ⟨p1, 0, none⟩) 1 1, .slice (some ⟨p2, 0, none⟩) 1 1, .slice (some ⟨p3, 0, none⟩) 1 1, .slice (some ⟨p4, 0, none⟩) 1 1] 26
  lX : lo ≤ X
theorem XS.step {lo : Nat} {g : Sg} {X p1 p2 p3 p4 bw cw R q : Nat} {V w4 : World} {o : Obj} {row : Option Nat} {v' : Value} (h : XS lo g X p1 p2 p3 p4 bw cw V) (hg : (V.alloc o).grownBy w4 row) (hrow : ∀ b, row = some b → b < lo) (hR : R < lo) : XS lo g X p1 p2 p3 p4 bw cw (w4.setCell ⟨R, q, none⟩ v') := by
  have hk : ∀ {b t : Nat} {c : Array Value}, Blk V b c t → lo ≤ b → Blk (w4.setCell ⟨R, q, none⟩ v') b c t := fun {b t c} hb hl =>
    (Below.heap_setCell w4 ⟨R, q, none⟩ v' b (by show b ≠ R; omega)).trans ((hg.block b (by simp; have := hb.lt; omega) (fun e => by have := hrow b e.symm; omega)).trans ((Below.heap_alloc V o b hb.lt).trans hb))
  have hlm := h.xl.lm
  refine ⟨⟨hk h.xl.k1 h.xl.l1, hk h.xl.k2 h.xl.l2, hk h.xl.k3 h.xl.l3, hk h.xl.k4 h.xl.l4, ?_, h.xl.l1, h.xl.l2, h.xl.l3, h.xl.l4⟩, hk h.bx h.lX, h.lX⟩
  have h1 := (hlm.alloc o).kept hg (Or.inr fun e => by have := (hlm.lt bw rfl).1; have := hrow bw e.symm; omega)
  exact ownsRow_setCell_other h1 (fun e => by have := (h1.lt R e).1; omega) _
theorem owns_low {w : World} {lo B t s n : Nat} {v : Value} {xs : List Value} (h : w.ownsRow lo t s v n xs) (hl : B ≤ lo) : w.ownsRow B t s v n xs := by
  obtain ⟨q1, q2⟩ := h
  refine ⟨q1, ?_⟩
  rcases q2 with q2 | ⟨g, cap, cur, e1, e2, e3⟩
  · exact Or.inl q2
  · exact Or.inr ⟨g, cap, cur, e1, by omega, e3⟩
theorem XS.drew {lo : Nat} {g : Sg} {X p1 p2 p3 p4 bw cw : Nat} {V : World} (h : XS lo g X p1 p2 p3 p4 bw cw V) : XS lo g X p1 p2 p3 p4 bw cw V.drew :=
  ⟨⟨h.xl.k1, h.xl.k2, h.xl.k3, h.xl.k4, h.xl.lm.drew, h.xl.l1, h.xl.l2, h.xl.l3, h.xl.l4⟩, h.bx, h.lX⟩

theorem rowAt_nil (w : World) (A : Nat → Option Addr) (C : Nat → Nat) : RowAt w none none none none A C (rowsOf []) :=
  ⟨fun _ hk => absurd hk (Nat.not_lt_zero _), fun _ hk => absurd hk (Nat.not_lt_zero _), fun _ hk => absurd hk (Nat.not_lt_zero _), fun _ hk => absurd hk (Nat.not_lt_zero _), fun _ hk => absurd hk (Nat.not_lt_zero _)⟩
theorem RetTold.fault {xs : List UInt8} {c l : Int} {w' : World} (h : IsTold xs c l []) : RetTold xs (.returned (.agg #[.int .i64 c, .int .i64 l, .slice none 0 0, .slice none 0 0, .slice none 0 0, .slice none 0 0])) w' :=
  ⟨c, l, [], none, none, none, none, 0, 0, 0, 0, fun _ => none, fun _ => 0, h, rfl, rowAt_nil _ _ _⟩

set_option maxHeartbeats 8000000 in
set_option maxRecDepth 100000 in
theorem specReadRow_of (xs : List UInt8) (w : World) (hx : xs.length ≤ 1048576) (hsig : ∀ l W, l.length ≤ 10000 → Calls Tryz.prog 12 #[.string (bs l)] W fun e w' => RetSig l W.heap.size e w' ∧ Below W.heap.size W w') :
    Calls Tryz.prog 5 #[.string (bs xs)] w fun e w' => RetTold xs e w' ∧ Below w.heap.size w w' := by
  obtain ⟨i0, hi, hz0, hz1, hz2⟩ := info_parts Tryz.iInt
  obtain ⟨ib, hib, hzb0, hzb1, hzb2⟩ := info_parts Tryz.iBool
  obtain ⟨ic, hic, hzc0, hzc1, hzc2⟩ := info_parts Tryz.iBools
  have hz := bs_size xs
  have bel : Below w.heap.size w (w.alloc (.cells #[.int .i64 0, .int .i64 0, .slice none 0 0, .slice none 0 0, .slice none 0 0, .slice none 0 0] 28)) := (Below.refl _ _).alloc (Nat.le_refl _) _
  have hbt := Blk.new w #[.int .i64 0, .int .i64 0, .slice none 0 0, .slice none 0 0, .slice none 0 0, .slice none 0 0] 28
  have hsz : (w.alloc (.cells #[.int .i64 0, .int .i64 0, .slice none 0 0, .slice none 0 0, .slice none 0 0, .slice none 0 0] 28)).heap.size = w.heap.size + 1 := by simp
  by_cases hlong : 10000 < xs.length
  · have HTL : Hid (IsTold xs 2 0 []) := told_long hlong
    have z : decide ((10000 : Int) < (xs.length : Int)) = true := by simp; omega
    have x0 := (Blk.new w #[.int .i64 2, .int .i64 0, .slice none 0 0, .slice none 0 0, .slice none 0 0, .slice none 0 0] 28)
    have c0 := x0.cell 0
    have c1 := x0.cell 1
    have c2 := x0.cell 2
    have c3 := x0.cell 3
    have c4 := x0.cell 4
    have c5 := x0.cell 5
    simp only [List.getElem?_toArray, List.getElem?_cons_succ, List.getElem?_cons_zero] at c0 c1 c2 c3 c4 c5
    go_enter Tryz.func5, Tryz.ntmps5
    go_wp2
    refine bodyPost_ret (v := .agg #[.int .i64 2, .int .i64 0, .slice none 0 0, .slice none 0 0, .slice none 0 0, .slice none 0 0]) ?_ rfl ⟨RetTold.fault HTL.out, (Below.refl _ _).alloc (Nat.le_refl _) _⟩
    simp [results, Tryz.results5, go_sem, c0, c1, c2, c3, c4, c5]
  have z : decide ((10000 : Int) < (xs.length : Int)) = false := by simp; omega
  have hxn : xs.length ≤ 10000 := by omega
  have HBT : Hid (Blk ((w.alloc (.cells #[.int .i64 0, .int .i64 0, .slice none 0 0, .slice none 0 0, .slice none 0 0, .slice none 0 0] 28)).alloc (.cells #[.slice none 0 0, .slice none 0 0, .slice none 0 0, .slice none 0 0] 26)) w.heap.size #[.int .i64 0, .int .i64 0, .slice none 0 0, .slice none 0 0, .slice none 0 0, .slice none 0 0] 28) := hbt.alloc _
  have hbr := Blk.new (w.alloc (.cells #[.int .i64 0, .int .i64 0, .slice none 0 0, .slice none 0 0, .slice none 0 0, .slice none 0 0] 28)) #[.slice none 0 0, .slice none 0 0, .slice none 0 0, .slice none 0 0] 26
  have bel1 : Below w.heap.size w ((w.alloc (.cells #[.int .i64 0, .int .i64 0, .slice none 0 0, .slice none 0 0, .slice none 0 0, .slice none 0 0] 28)).alloc (.cells #[.slice none 0 0, .slice none 0 0, .slice none 0 0, .slice none 0 0] 26)) := bel.alloc (by simp) _
  have hsz1 : ((w.alloc (.cells #[.int .i64 0, .int .i64 0, .slice none 0 0, .slice none 0 0, .slice none 0 0, .slice none 0 0] 28)).alloc (.cells #[.slice none 0 0, .slice none 0 0, .slice none 0 0, .slice none 0 0] 26)).heap.size = w.heap.size + 2 := by simp
  rw [hsz] at hbr
  clear bel hbt hsz
  go_enter Tryz.func5, Tryz.ntmps5
  go_wp2
  generalize ((w.alloc (.cells #[.int .i64 0, .int .i64 0, .slice none 0 0, .slice none 0 0, .slice none 0 0, .slice none 0 0] 28)).alloc (.cells #[.slice none 0 0, .slice none 0 0, .slice none 0 0, .slice none 0 0] 26)) = W1 at *
  have HG0 : Hid (Gr W1 (w.heap.size + 1) (w.heap.size + 2) [] [] [] [] (fun _ => 0) (fun _ => 0) (.slice none 0 0) (.slice none 0 0) (.slice none 0 0) (.slice none 0 0) W1) :=
    ⟨Below.refl _ _, hbr, World.ownsRow_nil _ _ _ _, World.ownsRow_nil _ _ _ _, World.ownsRow_nil _ _ _ _, World.ownsRow_nil _ _ _ _, fun g e => by simp [Value.ownBlock] at e, fun j hj => absurd hj (Nat.not_lt_zero _)⟩
  have HSZ : Hid (W1.heap.size = w.heap.size + 2) := hsz1
  have HSIG : Hid (∀ l W, l.length ≤ 10000 → Calls Tryz.prog 12 #[.string (bs l)] W fun e w' => RetSig l W.heap.size e w' ∧ Below W.heap.size W w') := hsig
  clear hbr hsz1 hsig hlong
  go_loopw [4, 5] (fun at' t wr => ∃ (k a : Nat) (ls : List (List UInt8)) (gs : List Sg) (bI cI : Nat → Nat) (v1 v2 v3 v4 : Value), at' = .int .i64 a ∧ t = .int .i64 k ∧ Got xs k a ls gs ∧ Gr W1 (w.heap.size + 1) (w.heap.size + 2) gs gs gs gs bI cI v1 v2 v3 v4 wr) (fun _ t _ => xs.length - (intOf t).toNat)
  case atStart => exact ⟨0, 0, [], [], _, _, _, _, _, _, rfl, rfl, Got.start xs, HG0.out⟩
  case round =>
    clear HG0
    obtain ⟨k, a, ls, gs, bI, cI, v1, v2, v3, v4, rfl, rfl, hG, hM⟩ := hrel
    have HG : Hid (Got xs k a ls gs) := hG
    have HM : Hid (Gr W1 (w.heap.size + 1) (w.heap.size + 2) gs gs gs gs bI cI v1 v2 v3 v4 wr) := hM
    have hak := hG.ak
    have hkn := hG.kn
    have hsm := hG.sm
    obtain ⟨s1, k1, rfl⟩ := own_shape hM.o1
    obtain ⟨s2, k2, rfl⟩ := own_shape hM.o2
    obtain ⟨s3, k3, rfl⟩ := own_shape hM.o3
    obtain ⟨s4, k4, rfl⟩ := own_shape hM.o4
    have hRl := hM.bk.lt
    have hbt := HBT.out.below hM.bel (show w.heap.size < w.heap.size + 1 by omega)
    clear hG hM
    by_cases hlt : k < xs.length
    · have hg := idx_bs xs k hlt wr
      obtain ⟨c, hc⟩ : ∃ c, c = xs.getD k 0 := ⟨_, rfl⟩
      have HC : Hid (c = xs.getD k 0) := hc
      rw [← hc] at hg
      clear hc
      by_cases hnl : c = 10
      case neg =>
        have z1 : ((c.toNat : Int) != 10) = true := by
          rw [bne_iff_ne]
          intro e
          exact hnl (UInt8.toNat.inj (by rw [show (10 : UInt8).toNat = 10 from rfl]; omega))
        have HG2 : Hid (Got xs (k + 1) a ls gs) := HG.out.on hlt (by rw [← HC.out]; exact hnl)
        clear hbt hnl
        go_wp2
        go_roundw
        case rel => exact ⟨k + 1, a, ls, gs, bI, cI, _, _, _, _, rfl, by go_num, HG2.out, HM.out⟩
        case measure => simp [intOf]; omega
      have z1 : ((c.toNat : Int) != 10) = false := by rw [hnl]; rfl
      have HNL : Hid (xs.getD k 0 = 10) := by show _ = _; rw [← HC.out]; exact hnl
      have hex := bs_extract xs a k
      have hcl : (cutT xs a k).length ≤ 10000 := by rw [cutT_len hkn]; omega
      have hsg := HSIG.out (cutT xs a k) wr hcl
      obtain ⟨ct, hct⟩ : ∃ ct, ct = cutT xs a k := ⟨_, rfl⟩
      have HCT : Hid (ct = cutT xs a k) := hct
      rw [← hct] at hex hsg
      clear hnl hct hcl
      go_wp2_with fail
      refine hsg.mono ?_
      rintro e w2 ⟨⟨g, p1, p2, p3, p4, bw, cw, hil, rfl, hxl⟩ | ⟨hno, b1, b2, b3, b4, n1, n2, n3, n4, d1, d2, d3, d4, rfl⟩, hb2⟩
      case inr =>
        have HTL : Hid (IsTold xs 1 ((gs.length : Int) + 1) []) := HG.out.bad hxn hlt HNL.out (by rw [← HCT.out]; exact hno)
        have hal : Below w2.heap.size w2 (w2.alloc (.cells #[.slice b1 n1 d1, .slice b2 n2 d2, .slice b3 n3 d3, .slice b4 n4 d4] 26)) := (Below.refl _ _).alloc (Nat.le_refl _) _
        have HM2 := (HM.out.keep hb2).keep hal
        have hbt2 := HBT.out.below HM2.bel (show w.heap.size < w.heap.size + 1 by omega)
        have r0 := HM2.bk.cell 0
        simp only [List.getElem?_toArray, List.getElem?_cons_zero] at r0
        have hbelW : Below w.heap.size w (w2.alloc (.cells #[.slice b1 n1 d1, .slice b2 n2 d2, .slice b3 n3 d3, .slice b4 n4 d4] 26)) := bel1.trans (HM2.bel.mono (by omega))
        have HC4 := laid6_blk hbt2 (.int .i64 1) (.int .i64 ((gs.length : Int) + 1)) (.slice none 0 0) (.slice none 0 0) (.slice none 0 0) (.slice none 0 0)
        have c0 := HC4.cell 0
        have c1 := HC4.cell 1
        have c2 := HC4.cell 2
        have c3 := HC4.cell 3
        have c4 := HC4.cell 4
        have c5 := HC4.cell 5
        have HB4 : Hid (Below w.heap.size w (laid6 (w2.alloc (.cells #[.slice b1 n1 d1, .slice b2 n2 d2, .slice b3 n3 d3, .slice b4 n4 d4] 26)) w.heap.size (.int .i64 1) (.int .i64 ((gs.length : Int) + 1)) (.slice none 0 0) (.slice none 0 0) (.slice none 0 0) (.slice none 0 0))) := laid6_below hbelW (Nat.le_refl _) _ _ _ _ _ _
        unfold laid6 at c0 c1 c2 c3 c4 c5 HB4
        simp only [List.getElem?_toArray, List.getElem?_cons_succ, List.getElem?_cons_zero] at c0 c1 c2 c3 c4 c5
        have t0 := hbt2.cell 0
        have t1 := hbt2.cell 1
        have t2 := hbt2.cell 2
        have t3 := hbt2.cell 3
        have t4 := hbt2.cell 4
        have t5 := hbt2.cell 5
        have f0 := hbt2.free 0
        have f1 := hbt2.free 1
        have f2 := hbt2.free 2
        have f3 := hbt2.free 3
        have f4 := hbt2.free 4
        have f5 := hbt2.free 5
        simp only [List.getElem?_toArray, List.getElem?_cons_succ, List.getElem?_cons_zero] at t0 t1 t2 t3 t4 t5
        clear hsg hex hno hb2 hal HM2 HM HG hg hbt
        go_wp2
        refine bodyPost_ret (v := .agg #[.int .i64 1, .int .i64 ((gs.length : Int) + 1), .slice none 0 0, .slice none 0 0, .slice none 0 0, .slice none 0 0]) ?_ rfl ⟨RetTold.fault HTL.out, HB4.out⟩
        simp [results, Tryz.results5, go_sem, c0, c1, c2, c3, c4, c5]
      have hal : Below w2.heap.size w2 (w2.alloc (.cells #[.slice (some ⟨p1, 0, none⟩) 1 1, .slice (some ⟨p2, 0, none⟩) 1 1, .slice (some ⟨p3, 0, none⟩) 1 1, .slice (some ⟨p4, 0, none⟩) 1 1] 26)) := (Below.refl _ _).alloc (Nat.le_refl _) _
      have HM2 : Hid (Gr W1 (w.heap.size + 1) (w.heap.size + 2) gs gs gs gs bI cI (.slice s1 gs.length k1) (.slice s2 gs.length k2) (.slice s3 gs.length k3) (.slice s4 gs.length k4) (w2.alloc (.cells #[.slice (some ⟨p1, 0, none⟩) 1 1, .slice (some ⟨p2, 0, none⟩) 1 1, .slice (some ⟨p3, 0, none⟩) 1 1, .slice (some ⟨p4, 0, none⟩) 1 1] 26))) := (HM.out.keep hb2).keep hal
      have HX2 : Hid (XS wr.heap.size g w2.heap.size p1 p2 p3 p4 bw cw (w2.alloc (.cells #[.slice (some ⟨p1, 0, none⟩) 1 1, .slice (some ⟨p2, 0, none⟩) 1 1, .slice (some ⟨p3, 0, none⟩) 1 1, .slice (some ⟨p4, 0, none⟩) 1 1] 26))) :=
        ⟨⟨hxl.k1.alloc _, hxl.k2.alloc _, hxl.k3.alloc _, hxl.k4.alloc _, hxl.lm.alloc _, hxl.l1, hxl.l2, hxl.l3, hxl.l4⟩, Blk.new w2 _ _, hb2.size⟩
      have HG2 : Hid (Got xs (k + 1) (k + 1) (ls ++ [cutT xs a k]) (gs ++ [g])) := HG.out.next hlt HNL.out (by rw [← HCT.out]; exact hil)
      have HOL : Hid ((∀ b, (Value.slice s1 gs.length k1).ownBlock = some b → b < wr.heap.size) ∧ (∀ b, (Value.slice s2 gs.length k2).ownBlock = some b → b < wr.heap.size) ∧ (∀ b, (Value.slice s3 gs.length k3).ownBlock = some b → b < wr.heap.size) ∧ (∀ b, (Value.slice s4 gs.length k4).ownBlock = some b → b < wr.heap.size)) :=
        ⟨fun b e => (HM.out.o1.lt b e).2, fun b e => (HM.out.o2.lt b e).2, fun b e => (HM.out.o3.lt b e).2, fun b e => (HM.out.o4.lt b e).2⟩
      clear hsg hex hil hxl hb2 hal HM HG hg hbt HCT HC
      go_wp2_with fail
      generalize (w2.alloc (.cells #[.slice (some ⟨p1, 0, none⟩) 1 1, .slice (some ⟨p2, 0, none⟩) 1 1, .slice (some ⟨p3, 0, none⟩) 1 1, .slice (some ⟨p4, 0, none⟩) 1 1] 26)) = V at *
      generalize w2.heap.size = X at *
      have x0 := HM2.out.bk.cell 0
      have y0 := HX2.out.bx.cell 0
      have q0 := HX2.out.xl.k1.cell 0
      simp at x0 y0 q0
      have HMd : Hid (Gr W1 (w.heap.size + 1) (w.heap.size + 2) gs gs gs gs bI cI (.slice s1 gs.length k1) (.slice s2 gs.length k2) (.slice s3 gs.length k3) (.slice s4 gs.length k4) V.drew) := HM2.out.keep (Below.refl _ _).drew
      have hVl := HM2.out.bk.lt
      go_cut [44] (fun _ wz => ∃ s1' k1', Gr W1 (w.heap.size + 1) (w.heap.size + 2) (gs ++ [g]) gs gs gs bI cI (.slice s1' (gs.length + 1) k1') (.slice s2 gs.length k2) (.slice s3 gs.length k3) (.slice s4 gs.length k4) wz ∧ XS wr.heap.size g X p1 p2 p3 p4 bw cw wz)
      case first =>
        go_region_law ((refine step_append_lies _ (by rfl) (.tmp 38) (.tmp 43) 22 (by rfl) (w.heap.size + 2) 3 i0 (.int .i64 0) 1 8 Tryz.uInts hi hz0 hz1 hz2 rfl (by omega) (.slice s1 gs.length k1) gs.length (gs.map nxV) (by rfl) (HMd.out.o1.alloc _) ⟨V.heap.size, 0, none⟩ 1 1 [.int .i64 g.nx] (by rfl) (by rfl) (World.news_of_block (cs := #[.int .i64 g.nx]) (t := 3) (fr := (0, 0)) (heap_alloc_new V _)) (by simp [Value.oneCell']) (by omega) (by unfold maxLen; omega) (by omega) (by simp; omega) (V.heap.size + 1) (by simp) ?_; intro q1 e1 w4 ho4 hg4 hat4 hlt4; have hB4 := (HMd.out.base (by omega) hg4 (fun g e => (HMd.out.o1.lt g e).1)).2.1; have x9 := hB4.cell 0; have f9 := hB4.free 0; simp at x9))
        all_goals
          go_wp2_with fail
          go_meet
          exact ⟨some ⟨q1, 0, none⟩, e1, HMd.out.appN (by omega) ho4 hg4 (near_lies hat4), HX2.out.drew.step hg4 HOL.out.1 (by omega)⟩
      case rest =>
      obtain ⟨V2, rfl⟩ : ∃ V2, V2 = wc := ⟨wc, rfl⟩
      obtain ⟨s1', k1', hMa, hXa⟩ := hcut
      have HM3 : Hid (Gr W1 (w.heap.size + 1) (w.heap.size + 2) (gs ++ [g]) gs gs gs bI cI (.slice s1' (gs.length + 1) k1') (.slice s2 gs.length k2) (.slice s3 gs.length k3) (.slice s4 gs.length k4) V2) := hMa
      have HX3 : Hid (XS wr.heap.size g X p1 p2 p3 p4 bw cw V2) := hXa
      clear hMa hXa HMd HM2 HX2 x0 y0 q0 hVl
      have x0 := HM3.out.bk.cell 1
      have y0 := HX3.out.bx.cell 1
      have q0 := HX3.out.xl.k2.cell 0
      simp at x0 y0 q0
      have HMd : Hid (Gr W1 (w.heap.size + 1) (w.heap.size + 2) (gs ++ [g]) gs gs gs bI cI (.slice s1' (gs.length + 1) k1') (.slice s2 gs.length k2) (.slice s3 gs.length k3) (.slice s4 gs.length k4) V2.drew) := HM3.out.keep (Below.refl _ _).drew
      have hVl := HM3.out.bk.lt
      go_wp2_with fail
      go_cut [53] (fun _ wz => ∃ s2' k2', Gr W1 (w.heap.size + 1) (w.heap.size + 2) (gs ++ [g]) (gs ++ [g]) gs gs bI cI (.slice s1' (gs.length + 1) k1') (.slice s2' (gs.length + 1) k2') (.slice s3 gs.length k3) (.slice s4 gs.length k4) wz ∧ XS wr.heap.size g X p1 p2 p3 p4 bw cw wz)
      case first =>
        go_region_law ((refine step_append_lies _ (by rfl) (.tmp 47) (.tmp 52) 22 (by rfl) (w.heap.size + 2) 3 i0 (.int .i64 0) 1 8 Tryz.uInts hi hz0 hz1 hz2 rfl (by omega) (.slice s2 gs.length k2) gs.length (gs.map frV) (by rfl) (HMd.out.o2.alloc _) ⟨V2.heap.size, 0, none⟩ 1 1 [.int .i64 g.fr] (by rfl) (by rfl) (World.news_of_block (cs := #[.int .i64 g.fr]) (t := 3) (fr := (0, 0)) (heap_alloc_new V2 _)) (by simp [Value.oneCell']) (by omega) (by unfold maxLen; omega) (by omega) (by simp; omega) (V2.heap.size + 1) (by simp) ?_; intro q1 e1 w4 ho4 hg4 hat4 hlt4; have hB4 := (HMd.out.base (by omega) hg4 (fun g e => (HMd.out.o2.lt g e).1)).2.1; have x9 := hB4.cell 1; have f9 := hB4.free 1; simp at x9))
        all_goals
          go_wp2_with fail
          go_meet
          exact ⟨some ⟨q1, 0, none⟩, e1, HMd.out.appF (by omega) ho4 hg4 (near_lies hat4), HX3.out.drew.step hg4 HOL.out.2.1 (by omega)⟩
      case rest =>
      obtain ⟨V3, rfl⟩ : ∃ V3, V3 = wc := ⟨wc, rfl⟩
      obtain ⟨s2', k2', hMa, hXa⟩ := hcut
      have HM4 : Hid (Gr W1 (w.heap.size + 1) (w.heap.size + 2) (gs ++ [g]) (gs ++ [g]) gs gs bI cI (.slice s1' (gs.length + 1) k1') (.slice s2' (gs.length + 1) k2') (.slice s3 gs.length k3) (.slice s4 gs.length k4) V3) := hMa
      have HX4 : Hid (XS wr.heap.size g X p1 p2 p3 p4 bw cw V3) := hXa
      clear hMa hXa HMd HM3 HX3 x0 y0 q0 hVl
      have x0 := HM4.out.bk.cell 2
      have y0 := HX4.out.bx.cell 2
      have q0 := HX4.out.xl.k3.cell 0
      simp at x0 y0 q0
      have HMd : Hid (Gr W1 (w.heap.size + 1) (w.heap.size + 2) (gs ++ [g]) (gs ++ [g]) gs gs bI cI (.slice s1' (gs.length + 1) k1') (.slice s2' (gs.length + 1) k2') (.slice s3 gs.length k3) (.slice s4 gs.length k4) V3.drew) := HM4.out.keep (Below.refl _ _).drew
      have hVl := HM4.out.bk.lt
      have hbwV := HX4.out.xl.lm.lt bw rfl
      go_wp2_with fail
      go_cut [62] (fun _ wz => ∃ s3' k3', Gr W1 (w.heap.size + 1) (w.heap.size + 2) (gs ++ [g]) (gs ++ [g]) (gs ++ [g]) gs bI cI (.slice s1' (gs.length + 1) k1') (.slice s2' (gs.length + 1) k2') (.slice s3' (gs.length + 1) k3') (.slice s4 gs.length k4) wz ∧ XS wr.heap.size g X p1 p2 p3 p4 bw cw wz ∧ (Value.slice s3' (gs.length + 1) k3').ownBlock ≠ some bw)
      case first =>
        go_region_law ((refine step_append_lies _ (by rfl) (.tmp 56) (.tmp 61) 23 (by rfl) (w.heap.size + 2) 4 ib (.bool false) 1 1 Tryz.uBools hib hzb0 hzb1 hzb2 rfl (by omega) (.slice s3 gs.length k3) gs.length (gs.map opV) (by rfl) (HMd.out.o3.alloc _) ⟨V3.heap.size, 0, none⟩ 1 1 [.bool g.op] (by rfl) (by rfl) (World.news_of_block (cs := #[.bool g.op]) (t := 4) (fr := (0, 0)) (heap_alloc_new V3 _)) (by simp [Value.oneCell']) (by omega) (by unfold maxLen; omega) (by omega) (by simp; omega) (V3.heap.size + 1) (by simp) ?_; intro q1 e1 w4 ho4 hg4 hat4 hlt4; have hB4 := (HMd.out.base (by omega) hg4 (fun g e => (HMd.out.o3.lt g e).1)).2.1; have x9 := hB4.cell 2; have f9 := hB4.free 2; simp at x9))
        all_goals
          go_wp2_with fail
          go_meet
          refine ⟨some ⟨q1, 0, none⟩, e1, HMd.out.appO (by omega) ho4 hg4 (near_lies hat4), HX4.out.drew.step hg4 HOL.out.2.2.1 (by omega), fun e => ?_⟩
          have hqe : q1 = bw := by injection e
          rcases hat4 with hat4 | hat4
          · have := HOL.out.2.2.1 q1 hat4; omega
          · omega
      case rest =>
      obtain ⟨V4, rfl⟩ : ∃ V4, V4 = wc := ⟨wc, rfl⟩
      obtain ⟨s3', k3', hMa, hXa, hne3⟩ := hcut
      have HM5 : Hid (Gr W1 (w.heap.size + 1) (w.heap.size + 2) (gs ++ [g]) (gs ++ [g]) (gs ++ [g]) gs bI cI (.slice s1' (gs.length + 1) k1') (.slice s2' (gs.length + 1) k2') (.slice s3' (gs.length + 1) k3') (.slice s4 gs.length k4) V4) := hMa
      have HX5 : Hid (XS wr.heap.size g X p1 p2 p3 p4 bw cw V4) := hXa
      have HN3 : Hid ((Value.slice s3' (gs.length + 1) k3').ownBlock ≠ some bw) := hne3
      clear hMa hXa hne3 HMd HM4 HX4 x0 y0 q0 hVl hbwV
      have x0 := HM5.out.bk.cell 3
      have y0 := HX5.out.bx.cell 3
      have q0 := HX5.out.xl.k4.cell 0
      simp at x0 y0 q0
      have HMd : Hid (Gr W1 (w.heap.size + 1) (w.heap.size + 2) (gs ++ [g]) (gs ++ [g]) (gs ++ [g]) gs bI cI (.slice s1' (gs.length + 1) k1') (.slice s2' (gs.length + 1) k2') (.slice s3' (gs.length + 1) k3') (.slice s4 gs.length k4) V4.drew) := HM5.out.keep (Below.refl _ _).drew
      have hVl := HM5.out.bk.lt
      go_wp2_with fail
      go_cut [71] (fun _ wz => ∃ s4' k4' bI' cI', Gr W1 (w.heap.size + 1) (w.heap.size + 2) (gs ++ [g]) (gs ++ [g]) (gs ++ [g]) (gs ++ [g]) bI' cI' (.slice s1' (gs.length + 1) k1') (.slice s2' (gs.length + 1) k2') (.slice s3' (gs.length + 1) k3') (.slice s4' (gs.length + 1) k4') wz)
      case first =>
        go_region_law ((refine step_append_lies _ (by rfl) (.tmp 65) (.tmp 70) 24 (by rfl) (w.heap.size + 2) 23 ic (.slice none 0 0) 1 24 Tryz.uBoolss hic hzc0 hzc1 hzc2 rfl (by omega) (.slice s4 gs.length k4) gs.length (wkV bI cI gs.length) (by rfl) (HMd.out.o4.alloc _) ⟨V4.heap.size, 0, none⟩ 1 1 [.slice (some ⟨bw, 0, none⟩) 4 cw] (by rfl) (by rfl) (World.news_of_block (cs := #[.slice (some ⟨bw, 0, none⟩) 4 cw]) (t := 23) (fr := (0, 0)) (heap_alloc_new V4 _)) (by simp [Value.oneCell']) (by omega) (by unfold maxLen; omega) (by omega) (by simp; omega) (V4.heap.size + 1) (by simp) ?_; intro q1 e1 w4 ho4 hg4 hat4 hlt4; have hB4 := (HMd.out.base (by omega) hg4 (fun g e => (HMd.out.o4.lt g e).1)).2.1; have x9 := hB4.cell 3; have f9 := hB4.free 3; simp at x9))
        all_goals
          go_wp2_with fail
          go_meet
          exact ⟨some ⟨q1, 0, none⟩, e1, _, _, HMd.out.appW (by omega) (owns_low HX5.out.drew.xl.lm (by omega)) HN3.out ho4 hg4⟩
      case rest =>
      obtain ⟨V5, rfl⟩ : ∃ V5, V5 = wc := ⟨wc, rfl⟩
      obtain ⟨s4', k4', bI', cI', hMa⟩ := hcut
      have HM6 : Hid (Gr W1 (w.heap.size + 1) (w.heap.size + 2) (gs ++ [g]) (gs ++ [g]) (gs ++ [g]) (gs ++ [g]) bI' cI' (.slice s1' (gs.length + 1) k1') (.slice s2' (gs.length + 1) k2') (.slice s3' (gs.length + 1) k3') (.slice s4' (gs.length + 1) k4') V5) := hMa
      clear hMa HMd HM5 HX5 x0 y0 q0 hVl HN3 HOL HBT HSIG
      go_wp2
      go_roundw
      case rel => exact ⟨k + 1, k + 1, _, gs ++ [g], bI', cI', _, _, _, _, by go_num, by go_num, HG2.out, HM6.out⟩
      case measure => simp [intOf]; omega
    · obtain rfl : k = xs.length := by omega
      have hbelW : Below w.heap.size w wr := bel1.trans (HM.out.bel.mono (by omega))
      have r0 := HM.out.bk.cell 0
      have r1 := HM.out.bk.cell 1
      have r2 := HM.out.bk.cell 2
      have r3 := HM.out.bk.cell 3
      simp only [List.getElem?_toArray, List.getElem?_cons_succ, List.getElem?_cons_zero] at r0 r1 r2 r3
      by_cases ha : a < xs.length
      · have HTL : Hid (IsTold xs 1 ((gs.length : Int) + 1) []) := HG.out.left hxn ha
        have HC4 := laid6_blk hbt (.int .i64 1) (.int .i64 ((gs.length : Int) + 1)) (.slice none 0 0) (.slice none 0 0) (.slice none 0 0) (.slice none 0 0)
        have c0 := HC4.cell 0
        have c1 := HC4.cell 1
        have c2 := HC4.cell 2
        have c3 := HC4.cell 3
        have c4 := HC4.cell 4
        have c5 := HC4.cell 5
        have HB4 : Hid (Below w.heap.size w (laid6 wr w.heap.size (.int .i64 1) (.int .i64 ((gs.length : Int) + 1)) (.slice none 0 0) (.slice none 0 0) (.slice none 0 0) (.slice none 0 0))) := laid6_below hbelW (Nat.le_refl _) _ _ _ _ _ _
        unfold laid6 at c0 c1 c2 c3 c4 c5 HB4
        simp only [List.getElem?_toArray, List.getElem?_cons_succ, List.getElem?_cons_zero] at c0 c1 c2 c3 c4 c5
        have t0 := hbt.cell 0
        have t1 := hbt.cell 1
        have t2 := hbt.cell 2
        have t3 := hbt.cell 3
        have t4 := hbt.cell 4
        have t5 := hbt.cell 5
        have f0 := hbt.free 0
        have f1 := hbt.free 1
        have f2 := hbt.free 2
        have f3 := hbt.free 3
        have f4 := hbt.free 4
        have f5 := hbt.free 5
        simp only [List.getElem?_toArray, List.getElem?_cons_succ, List.getElem?_cons_zero] at t0 t1 t2 t3 t4 t5
        go_wp2
        refine bodyPost_ret (v := .agg #[.int .i64 1, .int .i64 ((gs.length : Int) + 1), .slice none 0 0, .slice none 0 0, .slice none 0 0, .slice none 0 0]) ?_ rfl ⟨RetTold.fault HTL.out, HB4.out⟩
        simp [results, Tryz.results5, go_sem, c0, c1, c2, c3, c4, c5]
      obtain rfl : a = xs.length := by omega
      have hsmall : Small (rowsOf gs) := by
        have : gs.length ≤ 1048576 := by omega
        exact ⟨this, this, this, this, fun i _ => by show 4 ≤ _; omega⟩
      have hok := specRowOk_any s1 s2 s3 s4 k1 k2 k3 k4 _ _ (rowsOf gs) wr hsmall HM.out.at
      clear ha hsmall
      go_wp2_with fail
      refine hok.mono ?_
      rintro e w2 ⟨⟨r, rfl, hr⟩, hb2⟩
      clear hok
      have hbelW2 : Below w.heap.size w w2 := chain hbelW hb2
      have HM2 := HM.out.keep hb2
      have hbt2 := hbt.keep hb2
      by_cases hr0 : r = 0
      case neg =>
        have zr : (r != 0) = true := by rw [bne_iff_ne]; exact hr0
        have HTL : Hid (IsTold xs 3 0 []) := HG.out.wrong hxn (fun u => hr0 (hr.zero u))
        have HC4 := laid6_blk hbt2 (.int .i64 3) (.int .i64 0) (.slice none 0 0) (.slice none 0 0) (.slice none 0 0) (.slice none 0 0)
        have c0 := HC4.cell 0
        have c1 := HC4.cell 1
        have c2 := HC4.cell 2
        have c3 := HC4.cell 3
        have c4 := HC4.cell 4
        have c5 := HC4.cell 5
        have HB4 : Hid (Below w.heap.size w (laid6 w2 w.heap.size (.int .i64 3) (.int .i64 0) (.slice none 0 0) (.slice none 0 0) (.slice none 0 0) (.slice none 0 0))) := laid6_below hbelW2 (Nat.le_refl _) _ _ _ _ _ _
        unfold laid6 at c0 c1 c2 c3 c4 c5 HB4
        simp only [List.getElem?_toArray, List.getElem?_cons_succ, List.getElem?_cons_zero] at c0 c1 c2 c3 c4 c5
        have t0 := hbt2.cell 0
        have t1 := hbt2.cell 1
        have t2 := hbt2.cell 2
        have t3 := hbt2.cell 3
        have t4 := hbt2.cell 4
        have t5 := hbt2.cell 5
        have f0 := hbt2.free 0
        have f1 := hbt2.free 1
        have f2 := hbt2.free 2
        have f3 := hbt2.free 3
        have f4 := hbt2.free 4
        have f5 := hbt2.free 5
        simp only [List.getElem?_toArray, List.getElem?_cons_succ, List.getElem?_cons_zero] at t0 t1 t2 t3 t4 t5
        clear hr hr0
        go_wp2
        refine bodyPost_ret (v := .agg #[.int .i64 3, .int .i64 0, .slice none 0 0, .slice none 0 0, .slice none 0 0, .slice none 0 0]) ?_ rfl ⟨RetTold.fault HTL.out, HB4.out⟩
        simp [results, Tryz.results5, go_sem, c0, c1, c2, c3, c4, c5]
      subst hr0
      have HTL : Hid (IsTold xs 0 0 gs) := HG.out.row hxn hr.rt
      have HRW : Hid (RowAt (laid6 w2 w.heap.size (.int .i64 0) (.int .i64 0) (.slice s1 gs.length k1) (.slice s2 gs.length k2) (.slice s3 gs.length k3) (.slice s4 gs.length k4)) s1 s2 s3 s4 (fun j => some ⟨bI j, 0, none⟩) cI (rowsOf gs)) := HM2.low (by omega) _ _ _ _ _ _
      have y0 := HM2.bk.cell 0
      have y1 := HM2.bk.cell 1
      have y2 := HM2.bk.cell 2
      have y3 := HM2.bk.cell 3
      simp only [List.getElem?_toArray, List.getElem?_cons_succ, List.getElem?_cons_zero] at y0 y1 y2 y3
      have HC4 := laid6_blk hbt2 (.int .i64 0) (.int .i64 0) (.slice s1 gs.length k1) (.slice s2 gs.length k2) (.slice s3 gs.length k3) (.slice s4 gs.length k4)
      have c0 := HC4.cell 0
      have c1 := HC4.cell 1
      have c2 := HC4.cell 2
      have c3 := HC4.cell 3
      have c4 := HC4.cell 4
      have c5 := HC4.cell 5
      have HB4 : Hid (Below w.heap.size w (laid6 w2 w.heap.size (.int .i64 0) (.int .i64 0) (.slice s1 gs.length k1) (.slice s2 gs.length k2) (.slice s3 gs.length k3) (.slice s4 gs.length k4))) := laid6_below hbelW2 (Nat.le_refl _) _ _ _ _ _ _
      unfold laid6 at c0 c1 c2 c3 c4 c5 HB4
      simp only [List.getElem?_toArray, List.getElem?_cons_succ, List.getElem?_cons_zero] at c0 c1 c2 c3 c4 c5
      have t0 := hbt2.cell 0
      have t1 := hbt2.cell 1
      have t2 := hbt2.cell 2
      have t3 := hbt2.cell 3
      have t4 := hbt2.cell 4
      have t5 := hbt2.cell 5
      have f0 := hbt2.free 0
      have f1 := hbt2.free 1
      have f2 := hbt2.free 2
      have f3 := hbt2.free 3
      have f4 := hbt2.free 4
      have f5 := hbt2.free 5
      simp only [List.getElem?_toArray, List.getElem?_cons_succ, List.getElem?_cons_zero] at t0 t1 t2 t3 t4 t5
      unfold laid6 at HRW
      go_wp2
      refine bodyPost_ret (v := .agg #[.int .i64 0, .int .i64 0, .slice s1 gs.length k1, .slice s2 gs.length k2, .slice s3 gs.length k3, .slice s4 gs.length k4]) ?_ rfl ⟨⟨0, 0, gs, s1, s2, s3, s4, k1, k2, k3, k4, _, _, HTL.out, rfl, HRW.out⟩, HB4.out⟩
      simp [results, Tryz.results5, go_sem, c0, c1, c2, c3, c4, c5]

end Go.Proofs.YtachkoledebanabGreatDoor
