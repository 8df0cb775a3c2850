/-
  FnExactReadRow: at every text: true; nothing that was there has turned.
-/
import Derived.Test.YtachkoledebanabGreatDoorMrT
import Derived.Test.YtachkoledebanabGreatDoorDoc4
namespace Go.Proofs.YtachkoledebanabGreatDoor
open Go.RowKit

set_option maxHeartbeats 2000000 in
theorem eqTold_same (c l : Int) (gs : List Sg) (a1 a2 a3 a4 b1 b2 b3 b4 : Option Addr) (c1 c2 c3 c4 e1 e2 e3 e4 : Nat) (A B : Nat → Option Addr) (C D : Nat → Nat) (w : World) (hs : Small (rowsOf gs)) (ha : RowAt w a1 a2 a3 a4 A C (rowsOf gs)) (hb : RowAt w b1 b2 b3 b4 B D (rowsOf gs)) :
    Calls Tryz.prog 7 #[.agg #[.int .i64 c, .int .i64 l, .slice a1 gs.length c1, .slice a2 gs.length c2, .slice a3 gs.length c3, .slice a4 gs.length c4], .agg #[.int .i64 c, .int .i64 l, .slice b1 gs.length e1, .slice b2 gs.length e2, .slice b3 gs.length e3, .slice b4 gs.length e4]] w fun e w' =>
      e = .returned (.bool true) ∧ Below w.heap.size w w' := by
  have bel : Below w.heap.size w ((w.alloc (.cells #[.int .i64 c, .int .i64 l, .slice a1 gs.length c1, .slice a2 gs.length c2, .slice a3 gs.length c3, .slice a4 gs.length c4] 28)).alloc (.cells #[.int .i64 c, .int .i64 l, .slice b1 gs.length e1, .slice b2 gs.length e2, .slice b3 gs.length e3, .slice b4 gs.length e4] 28)) := ((Below.refl _ _).alloc (Nat.le_refl _) _).alloc (by simp) _
  have heq := eqRow_same a1 a2 a3 a4 b1 b2 b3 b4 c1 c2 c3 c4 e1 e2 e3 e4 A B C D (rowsOf gs) _ hs (ha.keep bel) (hb.keep bel)
  replace heq : Calls Tryz.prog 17 #[.agg #[.slice a1 gs.length c1, .slice a2 gs.length c2, .slice a3 gs.length c3, .slice a4 gs.length c4], .agg #[.slice b1 gs.length e1, .slice b2 gs.length e2, .slice b3 gs.length e3, .slice b4 gs.length e4]] _ _ := heq
  have z1 : (c != c) = false := by simp
  have z2 : (l != l) = false := by simp
  have HB : Hid _ := bel
  clear ha hb bel
  go_enter Tryz.func7, Tryz.ntmps7
  go_wp2_with fail
  refine heq.mono ?_
  rintro e w2 ⟨rfl, hb2⟩
  clear heq
  go_wp2
  go_ret
  exact ⟨rfl, chain HB.out hb2⟩

set_option maxHeartbeats 2000000 in
theorem markTold_gen (c l : Int) (lo n g1 g2 g3 g4 : Nat) (s1 s2 s3 s4 : Option Addr) (k1 k2 k3 k4 : Nat) (bI cI : Nat → Nat) (f1 f2 : Nat → Int) (f3 : Nat → Bool) (f4 : Nat → Nat → Bool) (w : World) (hn : n ≤ 10000) (hl : lo ≤ w.heap.size)
    (h : In4 w lo n g1 g2 g3 g4 s1 s2 s3 s4 bI cI f1 f2 f3 f4) :
    Calls Tryz.prog 8 #[.agg #[.int .i64 c, .int .i64 l, .slice s1 n k1, .slice s2 n k2, .slice s3 n k3, .slice s4 n k4], .int .i64 1] w fun e w' =>
      e = .returned (.int .i64 (1 + n + n + n + 4 * n)) ∧ RowAt w' s1 s2 s3 s4 (fun j => some ⟨bI j, 0, none⟩) cI (marked 1 n) ∧ Below lo w w' ∧ ∀ b c t, Blk w b c t → t ≠ 3 → t ≠ 4 → Blk w' b c t := by
  have hal : Below w.heap.size w (w.alloc (.cells #[.int .i64 c, .int .i64 l, .slice s1 n k1, .slice s2 n k2, .slice s3 n k3, .slice s4 n k4] 28)) := (Below.refl _ _).alloc (Nat.le_refl _) _
  have hmk := markRow_gen lo n g1 g2 g3 g4 s1 s2 s3 s4 k1 k2 k3 k4 bI cI f1 f2 f3 f4 _ hn (Nat.le_trans hl hal.size) (h.keep hal)
  have HB : Hid (Below lo w (w.alloc (.cells #[.int .i64 c, .int .i64 l, .slice s1 n k1, .slice s2 n k2, .slice s3 n k3, .slice s4 n k4] 28))) := hal.mono hl
  have HQ : Hid (∀ b q t, Blk w b q t → Blk (w.alloc (.cells #[.int .i64 c, .int .i64 l, .slice s1 n k1, .slice s2 n k2, .slice s3 n k3, .slice s4 n k4] 28)) b q t) := fun b q t hb => hb.keep hal
  clear h hal
  go_enter Tryz.func8, Tryz.ntmps8
  go_wp2_with fail
  refine hmk.mono ?_
  rintro e w2 ⟨rfl, hr, hb2, hq⟩
  have HF : Hid (RowAt w2 s1 s2 s3 s4 (fun j => some ⟨bI j, 0, none⟩) cI (marked 1 n) ∧ Below lo w w2 ∧ ∀ b c t, Blk w b c t → t ≠ 3 → t ≠ 4 → Blk w2 b c t) := ⟨hr, HB.out.trans hb2, fun b c t hb => hq b c t (HQ.out b c t hb)⟩
  clear hmk hr hb2 hq
  go_wp2
  go_ret
  exact ⟨rfl, HF.out⟩

set_option maxHeartbeats 2000000 in
theorem heldTold_any (c l : Int) (s1 s2 s3 s4 : Option Addr) (k1 k2 k3 k4 n : Nat) (A : Nat → Option Addr) (C : Nat → Nat) (w : World) (hn : n ≤ 10000) (h : RowAt w s1 s2 s3 s4 A C (marked 1 n)) :
    Calls Tryz.prog 9 #[.agg #[.int .i64 c, .int .i64 l, .slice s1 n k1, .slice s2 n k2, .slice s3 n k3, .slice s4 n k4], .int .i64 1] w fun e w' => e = .returned (.int .i64 (1 + n + n + n + 4 * n)) ∧ Below w.heap.size w w' := by
  have hal : Below w.heap.size w (w.alloc (.cells #[.int .i64 c, .int .i64 l, .slice s1 n k1, .slice s2 n k2, .slice s3 n k3, .slice s4 n k4] 28)) := (Below.refl _ _).alloc (Nat.le_refl _) _
  have hhd := heldRow_any s1 s2 s3 s4 k1 k2 k3 k4 n A C _ hn (h.keep hal)
  have HB : Hid (Below w.heap.size w (w.alloc (.cells #[.int .i64 c, .int .i64 l, .slice s1 n k1, .slice s2 n k2, .slice s3 n k3, .slice s4 n k4] 28))) := hal
  have z : decide ((1 : Int) + n + n + n + 4 * n < 0) = false := by simp; omega
  clear h hal
  go_enter Tryz.func9, Tryz.ntmps9
  go_wp2_with fail
  refine hhd.mono ?_
  rintro e w2 ⟨rfl, hb2⟩
  have hB := chain HB.out hb2
  clear hhd hb2
  go_wp2
  go_ret
  exact ⟨rfl, hB⟩

theorem told_n {xs : List UInt8} {c l : Int} {gs : List Sg} (h : IsTold xs c l gs) : gs.length ≤ 10000 := by
  rcases h with ⟨_, _, _, rfl⟩ | ⟨_, _, _, _, _, rfl⟩ | ⟨_, _, _, _, _, _, rfl⟩ | ⟨h0, gs', hr, _, ⟨_, _, _, rfl⟩ | ⟨_, _, _, rfl⟩⟩
  · simp
  · simp
  · simp
  · simp
  · have h1 := hr.len
    have h2 := linesA_len xs []
    omega

set_option maxHeartbeats 8000000 in
theorem lawReadRow (xs : List UInt8) (w : World) (L : Laid w) (h63 : xs.length ≤ 9223372036854775807) :
    Calls Tryz.prog 3 #[.string (bs xs)] w fun e w' => e = .returned (.bool true) ∧ Below w.heap.size w w' := by
  have hz := bs_size xs
  go_enter Tryz.func3, Tryz.ntmps3
  by_cases hl : 1048576 < xs.length
  case pos =>
    have z : decide ((1048576 : Int) < (xs.length : Int)) = true := by simp; omega
    clear L
    go_wp2
    go_ret
    exact ⟨rfl, Below.refl _ _⟩
  have z : decide ((1048576 : Int) < (xs.length : Int)) = false := by simp; omega
  have hxl : xs.length ≤ 1048576 := by omega
  have hs := specReadRow_any xs w hxl
  have HL : Hid (Laid w) := L
  clear L
  go_wp2_with fail
  refine hs.mono ?_
  rintro e w1 ⟨⟨c, l, gs, a1, a2, a3, a4, c1, c2, c3, c4, A, C, ht, rfl, hrow⟩, hb1⟩
  have HT : Hid (IsTold xs c l gs) := ht
  have hn : gs.length ≤ 10000 := told_n ht
  have HSM : Hid (Small (rowsOf gs)) := rows_small (by omega)
  have hal : Below w1.heap.size w1 (w1.alloc (.cells #[.int .i64 c, .int .i64 l, .slice a1 gs.length c1, .slice a2 gs.length c2, .slice a3 gs.length c3, .slice a4 gs.length c4] 28)) := (Below.refl _ _).alloc (Nat.le_refl _) _
  have HR1 : Hid (RowAt (w1.alloc (.cells #[.int .i64 c, .int .i64 l, .slice a1 gs.length c1, .slice a2 gs.length c2, .slice a3 gs.length c3, .slice a4 gs.length c4] 28)) a1 a2 a3 a4 A C (rowsOf gs)) := hrow.keep hal
  have HK1 : Hid (Blk (w1.alloc (.cells #[.int .i64 c, .int .i64 l, .slice a1 gs.length c1, .slice a2 gs.length c2, .slice a3 gs.length c3, .slice a4 gs.length c4] 28)) w1.heap.size #[.int .i64 c, .int .i64 l, .slice a1 gs.length c1, .slice a2 gs.length c2, .slice a3 gs.length c3, .slice a4 gs.length c4] 28) := Blk.new w1 _ _
  have HB1 : Hid (Below w.heap.size w (w1.alloc (.cells #[.int .i64 c, .int .i64 l, .slice a1 gs.length c1, .slice a2 gs.length c2, .slice a3 gs.length c3, .slice a4 gs.length c4] 28))) := chain hb1 hal
  have hrd := implReadRow_any xs (w1.alloc (.cells #[.int .i64 c, .int .i64 l, .slice a1 gs.length c1, .slice a2 gs.length c2, .slice a3 gs.length c3, .slice a4 gs.length c4] 28)) (HL.out.keep HB1.out) hxl
  clear hs ht hrow hb1 hal
  go_wp2_with fail
  generalize (w1.alloc (.cells #[.int .i64 c, .int .i64 l, .slice a1 gs.length c1, .slice a2 gs.length c2, .slice a3 gs.length c3, .slice a4 gs.length c4] 28)) = W1 at *
  refine hrd.mono ?_
  rintro e w2 ⟨⟨c', l', gs', bI, cI, s1, s2, s3, s4, k1, k2, k3, k4, ht', rfl, how⟩, hb2⟩
  obtain ⟨rfl, rfl, rfl⟩ := HT.out.one ht'
  have hal : Below w2.heap.size w2 (w2.alloc (.cells #[.int .i64 c, .int .i64 l, .slice s1 gs.length k1, .slice s2 gs.length k2, .slice s3 gs.length k3, .slice s4 gs.length k4] 28)) := (Below.refl _ _).alloc (Nat.le_refl _) _
  have HW2 : Hid (Below W1.heap.size W1 (w2.alloc (.cells #[.int .i64 c, .int .i64 l, .slice s1 gs.length k1, .slice s2 gs.length k2, .slice s3 gs.length k3, .slice s4 gs.length k4] 28))) := chain hb2 hal
  have HO2 : Hid (Ow W1.heap.size gs bI cI (.slice s1 gs.length k1) (.slice s2 gs.length k2) (.slice s3 gs.length k3) (.slice s4 gs.length k4) (w2.alloc (.cells #[.int .i64 c, .int .i64 l, .slice s1 gs.length k1, .slice s2 gs.length k2, .slice s3 gs.length k3, .slice s4 gs.length k4] 28))) := how.keep hal
  have HK2 : Hid (Blk (w2.alloc (.cells #[.int .i64 c, .int .i64 l, .slice s1 gs.length k1, .slice s2 gs.length k2, .slice s3 gs.length k3, .slice s4 gs.length k4] 28)) w2.heap.size #[.int .i64 c, .int .i64 l, .slice s1 gs.length k1, .slice s2 gs.length k2, .slice s3 gs.length k3, .slice s4 gs.length k4] 28) := Blk.new w2 _ _
  have HK1' : Hid (Blk (w2.alloc (.cells #[.int .i64 c, .int .i64 l, .slice s1 gs.length k1, .slice s2 gs.length k2, .slice s3 gs.length k3, .slice s4 gs.length k4] 28)) w1.heap.size #[.int .i64 c, .int .i64 l, .slice a1 gs.length c1, .slice a2 gs.length c2, .slice a3 gs.length c3, .slice a4 gs.length c4] 28) := HK1.out.keep HW2.out
  have heq := eqTold_same c l gs s1 s2 s3 s4 a1 a2 a3 a4 k1 k2 k3 k4 c1 c2 c3 c4 _ A cI C (w2.alloc (.cells #[.int .i64 c, .int .i64 l, .slice s1 gs.length k1, .slice s2 gs.length k2, .slice s3 gs.length k3, .slice s4 gs.length k4] 28)) HSM.out HO2.out.at (HR1.out.keep HW2.out)
  have x0 := HK1'.out.cell 0
  have x1 := HK1'.out.cell 1
  have x2 := HK1'.out.cell 2
  have x3 := HK1'.out.cell 3
  have x4 := HK1'.out.cell 4
  have x5 := HK1'.out.cell 5
  simp only [List.getElem?_toArray, List.getElem?_cons_succ, List.getElem?_cons_zero] at x0 x1 x2 x3 x4 x5
  clear hrd ht' how hb2 hal
  go_wp2_with fail
  generalize (w2.alloc (.cells #[.int .i64 c, .int .i64 l, .slice s1 gs.length k1, .slice s2 gs.length k2, .slice s3 gs.length k3, .slice s4 gs.length k4] 28)) = W2 at *
  refine heq.mono ?_
  rintro e w3 ⟨rfl, hb3⟩
  have HW3 : Hid (Below W1.heap.size W1 w3) := chain HW2.out hb3
  have hk2 := HK2.out.keep hb3
  have HK23 : Hid (Blk w3 w2.heap.size #[.int .i64 c, .int .i64 l, .slice s1 gs.length k1, .slice s2 gs.length k2, .slice s3 gs.length k3, .slice s4 gs.length k4] 28) := hk2
  have HK13 : Hid (Blk w3 w1.heap.size #[.int .i64 c, .int .i64 l, .slice a1 gs.length c1, .slice a2 gs.length c2, .slice a3 gs.length c3, .slice a4 gs.length c4] 28) := HK1'.out.keep hb3
  obtain ⟨g1, g2, g3, g4, hin⟩ := (HO2.out.keep hb3).in4 HW3.out.size
  have hmk := markTold_gen c l W1.heap.size gs.length g1 g2 g3 g4 s1 s2 s3 s4 k1 k2 k3 k4 bI cI _ _ _ _ w3 hn HW3.out.size hin
  have y0 := hk2.cell 0
  have y1 := hk2.cell 1
  have y2 := hk2.cell 2
  have y3 := hk2.cell 3
  have y4 := hk2.cell 4
  have y5 := hk2.cell 5
  simp only [List.getElem?_toArray, List.getElem?_cons_succ, List.getElem?_cons_zero] at y0 y1 y2 y3 y4 y5
  clear heq hb3 hin hk2 x0 x1 x2 x3 x4 x5
  go_wp2_with fail
  refine hmk.mono ?_
  rintro e w4 ⟨rfl, hr4, hb4, hq4⟩
  have HW4 : Hid (Below W1.heap.size W1 w4) := HW3.out.trans hb4
  have HK24 : Hid (Blk w4 w2.heap.size #[.int .i64 c, .int .i64 l, .slice s1 gs.length k1, .slice s2 gs.length k2, .slice s3 gs.length k3, .slice s4 gs.length k4] 28) := hq4 _ _ _ HK23.out (by decide) (by decide)
  have HK14 : Hid (Blk w4 w1.heap.size #[.int .i64 c, .int .i64 l, .slice a1 gs.length c1, .slice a2 gs.length c2, .slice a3 gs.length c3, .slice a4 gs.length c4] 28) := hq4 _ _ _ HK13.out (by decide) (by decide)
  have HR4 : Hid (RowAt w4 s1 s2 s3 s4 (fun j => some ⟨bI j, 0, none⟩) cI (marked 1 gs.length)) := hr4
  have hhd := heldTold_any c l s1 s2 s3 s4 k1 k2 k3 k4 gs.length _ cI w4 hn hr4
  have v0 := HK24.out.cell 0
  have v1 := HK24.out.cell 1
  have v2 := HK24.out.cell 2
  have v3 := HK24.out.cell 3
  have v4 := HK24.out.cell 4
  have v5 := HK24.out.cell 5
  simp only [List.getElem?_toArray, List.getElem?_cons_succ, List.getElem?_cons_zero] at v0 v1 v2 v3 v4 v5
  clear hmk hr4 hb4 hq4 y0 y1 y2 y3 y4 y5
  obtain ⟨m, hm⟩ : ∃ m : Int, m = 1 + gs.length + gs.length + gs.length + 4 * gs.length := ⟨_, rfl⟩
  have hm0 : 0 ≤ m := by omega
  rw [← hm] at hhd ⊢
  have HM : Hid (m = 1 + gs.length + gs.length + gs.length + 4 * gs.length) := hm
  clear hm
  go_wp2_with fail
  refine hhd.mono ?_
  rintro e w5 ⟨rfl, hb5⟩
  have HW5 : Hid (Below W1.heap.size W1 w5) := HW4.out.trans (hb5.mono HW4.out.size)
  have HK25 : Hid (Blk w5 w2.heap.size #[.int .i64 c, .int .i64 l, .slice s1 gs.length k1, .slice s2 gs.length k2, .slice s3 gs.length k3, .slice s4 gs.length k4] 28) := HK24.out.keep hb5
  have HK15 : Hid (Blk w5 w1.heap.size #[.int .i64 c, .int .i64 l, .slice a1 gs.length c1, .slice a2 gs.length c2, .slice a3 gs.length c3, .slice a4 gs.length c4] 28) := HK14.out.keep hb5
  have HR5 : Hid (RowAt w5 s1 s2 s3 s4 (fun j => some ⟨bI j, 0, none⟩) cI (marked 1 gs.length)) := HR4.out.keep hb5
  have z5 : decide (m < 0) = false := by simp; omega
  have z6 : (m != m) = false := by simp
  have HB5 : Hid (Below w.heap.size w w5) := HB1.out.trans (HW5.out.mono HB1.out.size)
  have hrd := implReadRow_any xs w5 (HL.out.keep HB5.out) hxl
  clear hhd hb5 v0 v1 v2 v3 v4 v5
  go_wp2_with fail
  refine hrd.mono ?_
  rintro e w6 ⟨⟨c', l', gs', bJ, cJ, t1, t2, t3, t4, h1, h2, h3, h4, ht', rfl, how⟩, hb6⟩
  obtain ⟨rfl, rfl, rfl⟩ := HT.out.one ht'
  have hal : Below w6.heap.size w6 (w6.alloc (.cells #[.int .i64 c, .int .i64 l, .slice t1 gs.length h1, .slice t2 gs.length h2, .slice t3 gs.length h3, .slice t4 gs.length h4] 28)) := (Below.refl _ _).alloc (Nat.le_refl _) _
  have hb6' : Below w5.heap.size w5 (w6.alloc (.cells #[.int .i64 c, .int .i64 l, .slice t1 gs.length h1, .slice t2 gs.length h2, .slice t3 gs.length h3, .slice t4 gs.length h4] 28)) := chain hb6 hal
  have HW6 : Hid (Below W1.heap.size W1 (w6.alloc (.cells #[.int .i64 c, .int .i64 l, .slice t1 gs.length h1, .slice t2 gs.length h2, .slice t3 gs.length h3, .slice t4 gs.length h4] 28))) := HW5.out.trans (hb6'.mono HW5.out.size)
  have HK26 : Hid (Blk (w6.alloc (.cells #[.int .i64 c, .int .i64 l, .slice t1 gs.length h1, .slice t2 gs.length h2, .slice t3 gs.length h3, .slice t4 gs.length h4] 28)) w2.heap.size #[.int .i64 c, .int .i64 l, .slice s1 gs.length k1, .slice s2 gs.length k2, .slice s3 gs.length k3, .slice s4 gs.length k4] 28) := HK25.out.keep hb6'
  have HK16 : Hid (Blk (w6.alloc (.cells #[.int .i64 c, .int .i64 l, .slice t1 gs.length h1, .slice t2 gs.length h2, .slice t3 gs.length h3, .slice t4 gs.length h4] 28)) w1.heap.size #[.int .i64 c, .int .i64 l, .slice a1 gs.length c1, .slice a2 gs.length c2, .slice a3 gs.length c3, .slice a4 gs.length c4] 28) := HK15.out.keep hb6'
  have HR6 : Hid (RowAt (w6.alloc (.cells #[.int .i64 c, .int .i64 l, .slice t1 gs.length h1, .slice t2 gs.length h2, .slice t3 gs.length h3, .slice t4 gs.length h4] 28)) s1 s2 s3 s4 (fun j => some ⟨bI j, 0, none⟩) cI (marked 1 gs.length)) := HR5.out.keep hb6'
  have heq := eqTold_same c l gs t1 t2 t3 t4 a1 a2 a3 a4 h1 h2 h3 h4 c1 c2 c3 c4 _ A cJ C (w6.alloc (.cells #[.int .i64 c, .int .i64 l, .slice t1 gs.length h1, .slice t2 gs.length h2, .slice t3 gs.length h3, .slice t4 gs.length h4] 28)) HSM.out (how.at.keep hal) (HR1.out.keep HW6.out)
  have x0 := HK16.out.cell 0
  have x1 := HK16.out.cell 1
  have x2 := HK16.out.cell 2
  have x3 := HK16.out.cell 3
  have x4 := HK16.out.cell 4
  have x5 := HK16.out.cell 5
  simp only [List.getElem?_toArray, List.getElem?_cons_succ, List.getElem?_cons_zero] at x0 x1 x2 x3 x4 x5
  clear hrd ht' how hb6 hal hb6'
  go_wp2_with fail
  generalize (w6.alloc (.cells #[.int .i64 c, .int .i64 l, .slice t1 gs.length h1, .slice t2 gs.length h2, .slice t3 gs.length h3, .slice t4 gs.length h4] 28)) = W6 at *
  refine heq.mono ?_
  rintro e w7 ⟨rfl, hb7⟩
  have HW7 : Hid (Below W1.heap.size W1 w7) := HW6.out.trans (hb7.mono HW6.out.size)
  have hk7 := HK26.out.keep hb7
  have hhd := heldTold_any c l s1 s2 s3 s4 k1 k2 k3 k4 gs.length _ cI w7 hn (HR6.out.keep hb7)
  rw [← HM.out] at hhd
  have v0 := hk7.cell 0
  have v1 := hk7.cell 1
  have v2 := hk7.cell 2
  have v3 := hk7.cell 3
  have v4 := hk7.cell 4
  have v5 := hk7.cell 5
  simp only [List.getElem?_toArray, List.getElem?_cons_succ, List.getElem?_cons_zero] at v0 v1 v2 v3 v4 v5
  clear heq hb7 hk7 x0 x1 x2 x3 x4 x5
  go_wp2_with fail
  refine hhd.mono ?_
  rintro e w8 ⟨rfl, hb8⟩
  have HW8 : Hid (Below W1.heap.size W1 w8) := HW7.out.trans (hb8.mono HW7.out.size)
  have hB8 : Below w.heap.size w w8 := HB1.out.trans (HW8.out.mono HB1.out.size)
  clear hhd hb8 v0 v1 v2 v3 v4 v5
  go_wp2
  go_ret
  exact ⟨rfl, hB8⟩

end Go.Proofs.YtachkoledebanabGreatDoor
