/-
  row: the row that is drawn, walked.
-/
import Derived.Test.YtachkoledebanaaGreatDoorCurEtc
import Derived.Deep.RegionLaw
import Derived.Deep.DeepCutAuto
import Derived.Deep.LoopGhost
namespace Go.Proofs.YtachkoledebanaaGreatDoor
open Go.RowKit

theorem only4 {w W1 wr : World} {X : Nat} (h : Below w.heap.size w W1) (ho : Only X (X + 1) W1 wr) (u0 u1 u2 u3 : Value) : Only X (X + 1) w ((((wr.setCell ⟨w.heap.size, 0, none⟩ u0).setCell ⟨w.heap.size, 1, none⟩ u1).setCell ⟨w.heap.size, 2, none⟩ u2).setCell ⟨w.heap.size, 3, none⟩ u3) := by
  have h0 : Only X (X + 1) w wr := (Only.ofBelow h).trans ho
  have key : ∀ (a : World) (q : Nat) (u : Value), Only X (X + 1) w a → Only X (X + 1) w (a.setCell ⟨w.heap.size, q, none⟩ u) := fun a q u ha => ⟨ha.os, ha.tape, ha.output, by simpa using ha.size, fun j hj hne => (Below.heap_setCell a ⟨w.heap.size, q, none⟩ u j (by show j ≠ w.heap.size; omega)).trans (ha.block j hj hne)⟩
  exact key _ _ _ (key _ _ _ (key _ _ _ (key _ _ _ h0)))

set_option maxHeartbeats 8000000 in
set_option maxRecDepth 100000 in
theorem row_any (X : Nat) (ca : Option Addr) (cc : Nat) (k : Code) (w : World) (hn : k.n ≤ 1048576) (hk : Bytes k) (hX : X < w.heap.size) (h : CurAt w X ca cc k ⟨0, 0⟩) (hca : ∀ b o, ca = some ⟨b, o, none⟩ → 0 < k.n → b < w.heap.size) :
    Calls Tryz.prog 11 #[.pointer (some ⟨X, 0, none⟩)] w fun e w' => RetRow e w.heap.size (drawn k) w' ∧ Only X (X + 1) w w' := by
  obtain ⟨i0, hi, hz0, hz1, hz2⟩ := info_parts Tryz.iInt
  obtain ⟨ib, hib, hzb0, hzb1, hzb2⟩ := info_parts Tryz.iBool
  obtain ⟨ic, hic, hzc0, hzc1, hzc2⟩ := info_parts Tryz.iBools
  have hdn := dN_bd hk
  have HK : Hid (Bytes k) := hk
  have HC : Hid (∀ b o, ca = some ⟨b, o, none⟩ → 0 < k.n → b < w.heap.size) := hca
  have hs1 : (w.alloc (.cells #[.slice none 0 0, .slice none 0 0, .slice none 0 0, .slice none 0 0] 27)).heap.size = w.heap.size + 1 := by simp
  have bl1 : Below w.heap.size w (w.alloc (.cells #[.slice none 0 0, .slice none 0 0, .slice none 0 0, .slice none 0 0] 27)) := (Below.refl _ _).alloc (Nat.le_refl _) _
  have bs1 := Blk.new w #[.slice none 0 0, .slice none 0 0, .slice none 0 0, .slice none 0 0] 27
  have HW1 : Hid ((w.alloc (.cells #[.slice none 0 0, .slice none 0 0, .slice none 0 0, .slice none 0 0] 27)).heap.size = w.heap.size + 1) := hs1
  clear hca hk
  go_enter Tryz.func11, Tryz.ntmps11
  go_wp2_with fail
  generalize (w.alloc (.cells #[.slice none 0 0, .slice none 0 0, .slice none 0 0, .slice none 0 0] 27)) = W1 at *
  have hs2 : (W1.alloc (.cells #[.slice none 0 0, .slice none 0 0, .slice none 0 0, .slice none 0 0] 27)).heap.size = w.heap.size + 2 := by simp; omega
  have bl2 : Below W1.heap.size W1 (W1.alloc (.cells #[.slice none 0 0, .slice none 0 0, .slice none 0 0, .slice none 0 0] 27)) := (Below.refl _ _).alloc (Nat.le_refl _) _
  have bs2 := Blk.new W1 #[.slice none 0 0, .slice none 0 0, .slice none 0 0, .slice none 0 0] 27
  rw [HW1.out] at bs2
  have HM : Hid (Mk W1 X (w.heap.size + 1) (w.heap.size + 2) (drawn k) (fun _ => 0) 0 0 0 0 (.slice none 0 0) (.slice none 0 0) (.slice none 0 0) (.slice none 0 0) (W1.alloc (.cells #[.slice none 0 0, .slice none 0 0, .slice none 0 0, .slice none 0 0] 27))) :=
    ⟨.ofBelow bl2, bs2, World.ownsRow_nil _ _ _ _, World.ownsRow_nil _ _ _ _, World.ownsRow_nil _ _ _ _, World.ownsRow_nil _ _ _ _, fun g e => by simp [Value.ownBlock] at e, fun j hj => absurd hj (Nat.not_lt_zero _), fun i j _ hj => absurd hj (Nat.not_lt_zero _)⟩
  have hc2 : CurAt (W1.alloc (.cells #[.slice none 0 0, .slice none 0 0, .slice none 0 0, .slice none 0 0] 27)) X ca cc k ⟨0, 0⟩ := h.only (Y := w.heap.size) (bl1.trans (bl2.mono bl1.size)) hX HC.out
  clear h hs1 bs2 bl2 hs2
  generalize (W1.alloc (.cells #[.slice none 0 0, .slice none 0 0, .slice none 0 0, .slice none 0 0] 27)) = W2 at *
  refine (pick_any 9 (by omega) (by omega) X ca cc k ⟨0, 0⟩ W2 hn (by show 0 ≤ 1048576; omega) hc2).mono ?_
  rintro e w3 ⟨rfl, hc3, ho3, -⟩
  have hN := dN_eq HK.out
  have HM3 : Hid (Mk W1 X (w.heap.size + 1) (w.heap.size + 2) (drawn k) (fun _ => 0) 0 0 0 0 (.slice none 0 0) (.slice none 0 0) (.slice none 0 0) (.slice none 0 0) w3) := HM.out.cur (by omega) (by omega) ho3
  have hv3 := val_bd HK.out ⟨0, 0⟩
  generalize (⟨0, 0⟩ : Cu).val k % 9 = x9 at *
  obtain rfl : x9 = (dN k : Int) - 1 := by omega
  clear hc2 ho3 HM hN hv3
  go_wp2_with fail
  refine (pick_any 3 (by omega) (by omega) X ca cc k (st k 1 ⟨0, 0⟩) w3 hn (by rw [st_pos]; show 0 + 1 ≤ 1048576; omega) hc3).mono ?_
  rintro e w4 ⟨rfl, hc4, ho4, -⟩
  have HM4 : Hid (Mk W1 X (w.heap.size + 1) (w.heap.size + 2) (drawn k) (fun _ => 0) 0 0 0 0 (.slice none 0 0) (.slice none 0 0) (.slice none 0 0) (.slice none 0 0) w4) := HM3.out.cur (by omega) (by omega) ho4
  have HC4 : Hid (CurAt w4 X ca cc k (cAt k 0)) := hc4
  have HKd : Hid ((st k 1 ⟨0, 0⟩).val k % 3 = dK k) := rfl
  rw [HKd.out]
  have hdk : 0 ≤ dK k ∧ dK k ≤ 2 := by unfold dK; omega
  clear hc3 hc4 ho4 HM3
  go_wp2
  rw [show (1 : Int) + ((dN k : Int) - 1) = dN k by omega]
  go_loopg [6] (dN k) (fun g t wr => ∃ (i : Nat) (v1 v2 v3 v4 : Value) (bI : Nat → Nat), i + g = dN k ∧ t = .int .i64 i ∧ Mk W1 X (w.heap.size + 1) (w.heap.size + 2) (drawn k) bI i i i i v1 v2 v3 v4 wr ∧ CurAt wr X ca cc k (cAt k i))
  case atStart => exact ⟨0, _, _, _, _, _, Nat.zero_add _, rfl, HM4.out, HC4.out⟩
  case round =>
    clear HM4 HC4
    obtain ⟨i, v1, v2, v3, v4, bI, hig, rfl, hM, hC⟩ := hrel
    have HM : Hid (Mk W1 X (w.heap.size + 1) (w.heap.size + 2) (drawn k) bI i i i i v1 v2 v3 v4 wr) := hM
    have hpos := cAt_pos k i
    by_cases hlt : i < dN k
    · obtain ⟨c, hce⟩ : ∃ c, c = cAt k i := ⟨_, rfl⟩
      have HCE : Hid (c = cAt k i) := hce
      obtain ⟨s1, k1, rfl⟩ := own_shape hM.o1
      obtain ⟨s2, k2, rfl⟩ := own_shape hM.o2
      obtain ⟨s3, k3, rfl⟩ := own_shape hM.o3
      obtain ⟨s4, k4, rfl⟩ := own_shape hM.o4
      rw [← hce] at hC hpos
      clear hM hce
      go_wp2_with fail
      refine (pick_any ((dN k : Int) + 1) (by omega) (by omega) X ca cc k c wr hn (by omega) hC).mono ?_
      rintro e w5 ⟨rfl, hc5, ho5, -⟩
      have HM5 : Hid (Mk W1 X (w.heap.size + 1) (w.heap.size + 2) (drawn k) bI i i i i (.slice s1 i k1) (.slice s2 i k2) (.slice s3 i k3) (.slice s4 i k4) w5) := HM.out.cur (by omega) (by omega) ho5
      have HC5 : Hid (CurAt w5 X ca cc k (st k 1 c)) := hc5
      clear hC hc5 ho5 HM
      obtain ⟨x, hx⟩ : ∃ x, x = c.val k % ((dN k : Int) + 1) := ⟨_, rfl⟩
      have HX : Hid (x = c.val k % ((dN k : Int) + 1)) := hx
      have hxb : 0 ≤ x ∧ x ≤ dN k := by
        have h1 := Int.emod_nonneg (c.val k) (show (dN k : Int) + 1 ≠ 0 by omega)
        have h2 := Int.emod_lt_of_pos (c.val k) (show (0 : Int) < (dN k : Int) + 1 by omega)
        omega
      rw [← hx]
      clear hx
      go_upto_if 25 with fail
      go_cut [7] (fun t wz => t = .int .i64 (rMid (dK k) i x) ∧ wz = w5)
      case first =>
        by_cases hq : dK k = 0
        · have z : (dK k == 0) = true := by rw [beq_iff_eq]; exact hq
          have HQ : Hid (rMid (dK k) i x = (i : Int) - 1) := by show _ = _; unfold rMid; rw [if_pos hq]
          clear hq
          go_wp2
          go_meet
          exact ⟨by rw [HQ.out], rfl⟩
        · have z : (dK k == 0) = false := by rw [beq_eq_false_iff_ne]; exact hq
          have HQ : Hid (rMid (dK k) i x = x - 1) := by show _ = _; unfold rMid; rw [if_neg hq]
          clear hq
          go_wp2
          go_meet
          exact ⟨by rw [HQ.out], rfl⟩
      case rest =>
      obtain ⟨rfl, hwz⟩ := hcut
      replace hwz := hwz.symm
      subst hwz
      have HY : Hid ((drawn k).nx i = if dK k = 1 then ((i : Int) + 1) % (dN k : Int) else rMid (dK k) i x) := by
        show rNx k (dN k) (dK k) i (cAt k i) = _
        unfold rNx
        rw [HX.out, HCE.out]
      obtain ⟨y, hy⟩ : ∃ y, y = (drawn k).nx i := ⟨_, rfl⟩
      have HYE : Hid (y = (drawn k).nx i) := hy
      clear hy
      go_upto_if 29 with fail
      go_cut [7] (fun t wz => t = .int .i64 y ∧ wz = w5)
      case first =>
        by_cases hq : dK k = 1
        · have z : (dK k == 1) = true := by rw [beq_iff_eq]; exact hq
          have HQ : Hid (y = ((i : Int) + 1) % (dN k : Int)) := by show _ = _; rw [HYE.out, HY.out, if_pos hq]
          clear hq
          go_wp2
          go_meet
          exact ⟨by rw [HQ.out], rfl⟩
        · have z : (dK k == 1) = false := by rw [beq_eq_false_iff_ne]; exact hq
          have HQ : Hid (y = rMid (dK k) i x) := by show _ = _; rw [HYE.out, HY.out, if_neg hq]
          clear hq
          go_wp2
          go_meet
          exact ⟨by rw [HQ.out], rfl⟩
      case rest =>
      obtain ⟨rfl, hwz⟩ := hcut
      replace hwz := hwz.symm
      subst hwz
      clear HX HY hxb
      have x0 := HM5.out.bk.cell 0
      have f0 := HM5.out.bk.free 0
      have hR5 := HM5.out.bk.lt
      simp at x0
      have ho1 := HM5.out.o1
      go_wp2_with (at_builtin; (refine wpList_append_own_at _ rfl _ _ 23 rfl (w.heap.size + 2) 3 i0 (.int .i64 0) 1 8 Tryz.uInts hi hz0 hz1 hz2 rfl (by decide) (.slice s1 i k1) i (vN (drawn k) i) rfl (ho1.alloc _) ⟨w5.heap.size, 0, none⟩ 1 1 [.int .i64 y] rfl rfl (cell_one_new _ _ _) (ints_oneCell .i64 [y]) (by unfold maxLen; omega) (by omega) (by simp; omega) ?_; intro v' w6 hown' hgrow hnil hloc; obtain ⟨s1', k1', rfl⟩ := own_shape hown'; have HM6 : Hid (Mk W1 X (w.heap.size + 1) (w.heap.size + 2) (drawn k) bI (i + 1) i i i (.slice s1' (i + 1) k1') (.slice s2 i k2) (.slice s3 i k3) (.slice s4 i k4) (w6.setCell ⟨w.heap.size + 1, 0, none⟩ (.slice s1' (i + 1) k1'))) := HM5.out.appN (by omega) (by rw [HW1.out]; exact Nat.le_refl _) (by rw [← HYE.out]; exact hown') hgrow (near_of hloc); have hB6 := (HM5.out.base (by omega) (by rw [HW1.out]; exact Nat.le_refl _) hgrow (fun g e => (ho1.lt g e).1)).2.1; have x0' := hB6.cell 0; have f0' := hB6.free 0; simp at x0'))
      have bl6 : Below w.heap.size w5 (w6.setCell ⟨w.heap.size + 1, 0, none⟩ (.slice s1' (i + 1) k1')) := bel_step (by omega) (by omega) (Nat.le_add_right _ 2) hgrow (fun g e => (ho1.lt g e).1)
      have HC6 : Hid (CurAt (w6.setCell ⟨w.heap.size + 1, 0, none⟩ (.slice s1' (i + 1) k1')) X ca cc k (st k 1 c)) := HC5.out.only bl6 hX HC.out
      clear hown' hgrow hnil hloc hB6 x0' f0' x0 f0 ho1 HM5 HC5 bl6
      generalize (w6.setCell ⟨w.heap.size + 1, 0, none⟩ (.slice s1' (i + 1) k1')) = W6 at *
      obtain ⟨F1, hF1⟩ : ∃ F1, F1 = (st k 1 c).val k := ⟨_, rfl⟩
      obtain ⟨F2, hF2⟩ : ∃ F2, F2 = (st k 2 c).val k % 9 := ⟨_, rfl⟩
      have HF : Hid (F1 * (1 + F2) = (drawn k).fr i) := by
        show _ = rFr k (cAt k i)
        unfold rFr
        rw [hF1, hF2, HCE.out]
      have hb1 : 0 ≤ F1 ∧ F1 ≤ 255 := by rw [hF1]; exact val_bd HK.out _
      have hb2 : 0 ≤ F2 ∧ F2 ≤ 8 := by have := val_bd HK.out (st k 2 c); omega
      have hnx : ∀ V, CurAt V X ca cc k (st k 1 c) → Calls Tryz.prog 31 #[.pointer (some ⟨X, 0, none⟩)] V fun e w' => e = .returned (.int .i64 F1) ∧ CurAt w' X ca cc k (st k 2 c) ∧ Only X (X + 1) V w' := fun V hV =>
        (next_any X ca cc k (st k 1 c) V hn (by rw [st_pos]; omega) hV).mono fun e w' hh => ⟨by rw [hF1]; exact hh.1, hh.2.1, hh.2.2.1⟩
      have hpk : ∀ V, CurAt V X ca cc k (st k 2 c) → Calls Tryz.prog 30 #[.pointer (some ⟨X, 0, none⟩), .int .i64 9] V fun e w' => e = .returned (.int .i64 F2) ∧ CurAt w' X ca cc k (st k 3 c) ∧ Only X (X + 1) V w' := fun V hV =>
        (pick_any 9 (by omega) (by omega) X ca cc k (st k 2 c) V hn (by rw [st_pos]; omega) hV).mono fun e w' hh => ⟨by rw [hF2]; exact hh.1, hh.2.1, hh.2.2.1⟩
      have HNX : Hid (∀ V, CurAt V X ca cc k (st k 1 c) → Calls Tryz.prog 31 #[.pointer (some ⟨X, 0, none⟩)] V fun e w' => e = .returned (.int .i64 F1) ∧ CurAt w' X ca cc k (st k 2 c) ∧ Only X (X + 1) V w') := hnx
      have HPK : Hid (∀ V, CurAt V X ca cc k (st k 2 c) → Calls Tryz.prog 30 #[.pointer (some ⟨X, 0, none⟩), .int .i64 9] V fun e w' => e = .returned (.int .i64 F2) ∧ CurAt w' X ca cc k (st k 3 c) ∧ Only X (X + 1) V w') := hpk
      clear hnx hpk hF1 hF2
      have hml : 0 ≤ F1 * (1 + F2) ∧ F1 * (1 + F2) ≤ 2295 := ⟨Int.mul_nonneg hb1.1 (by omega), by have := Int.mul_le_mul hb1.2 (show 1 + F2 ≤ 9 by omega) (by omega) (by omega); omega⟩
      have hw1 : IntKind.i64.wrap (1 + F2) = 1 + F2 := by rw [IntKind.wrap_i64]; omega
      have hw2 : IntKind.i64.wrap (F1 * (1 + F2)) = F1 * (1 + F2) := by rw [IntKind.wrap_i64]; omega
      have x1 := HM6.out.bk.cell 1
      have f1 := HM6.out.bk.free 1
      simp at x1
      go_cut [49] (fun _ wz => ∃ s2' k2', Mk W1 X (w.heap.size + 1) (w.heap.size + 2) (drawn k) bI (i + 1) (i + 1) i i (.slice s1' (i + 1) k1') (.slice s2' (i + 1) k2') (.slice s3 i k3) (.slice s4 i k4) wz ∧ CurAt wz X ca cc k (st k 3 c))
      case first =>
        go_region_law
          (first
            | ((refine step_append_lies _ (by rfl) (.tmp 41) (.tmp 48) 23 (by rfl) (w.heap.size + 2) 3 i0 (.int .i64 0) 1 8 Tryz.uInts hi hz0 hz1 hz2 rfl (by omega) (.slice s2 i k2) i (vF (drawn k) i) (by rfl) (HM8.out.o2.alloc _) ⟨w8.heap.size, 0, none⟩ 1 1 [.int .i64 (F1 * (1 + F2))] (by rfl) (by rfl) (World.news_of_block (cs := #[.int .i64 (F1 * (1 + F2))]) (t := 3) (fr := (0, 0)) (heap_alloc_new w8 _)) (by simp [Value.oneCell']) (by omega) (by unfold maxLen; omega) (by omega) (by simp; omega) (w8.heap.size + 1) (by simp) ?_; intro g cap w9 ho9 hg9 hat9 hlt9; have hB9 := (HM8.out.base (by omega) (by rw [HW1.out]; exact Nat.le_refl _) hg9 (fun g e => (HM8.out.o2.lt g e).1)).2.1; have x9 := hB9.cell 1; have f9 := hB9.free 1; simp at x9))
            | ((go_simp; go_at_call 31; refine (HNX.out _ ?_).mono ?_; exact HC6.out.only (Below.refl _ _).drew hX HC.out; rintro e w7 ⟨rfl, hc7, ho7⟩; have HM7 : Hid (Mk W1 X (w.heap.size + 1) (w.heap.size + 2) (drawn k) bI (i + 1) i i i (.slice s1' (i + 1) k1') (.slice s2 i k2) (.slice s3 i k3) (.slice s4 i k4) w7) := HM6.out.drew.cur (by omega) (by omega) ho7; have x7 := HM7.out.bk.cell 1; simp at x7; dsimp only))
            | ((go_simp; go_at_call 30; refine (HPK.out _ ?_).mono ?_; exact hc7; rintro e w8 ⟨rfl, hc8, ho8⟩; have HM8 : Hid (Mk W1 X (w.heap.size + 1) (w.heap.size + 2) (drawn k) bI (i + 1) i i i (.slice s1' (i + 1) k1') (.slice s2 i k2) (.slice s3 i k3) (.slice s4 i k4) w8) := HM7.out.cur (by omega) (by omega) ho8; have x8 := HM8.out.bk.cell 1; have l8 := HM8.out.bk.lt; simp at x8; dsimp only)))
        all_goals
          go_wp2_with fail
          go_meet
          exact ⟨some ⟨g, 0, none⟩, cap, HM8.out.appF (by omega) (by rw [HW1.out]; exact Nat.le_refl _) (by rw [← HF.out]; exact ho9) hg9 (near_lies hat9), hc8.only (bel_step (by omega) (by omega) (Nat.le_add_right _ 2) hg9 (fun g e => (HM8.out.o2.lt g e).1)) hX HC.out⟩
      case rest =>
      obtain ⟨W9, rfl⟩ : ∃ W9, W9 = wc := ⟨wc, rfl⟩
      obtain ⟨s2', k2', hM9, hC9⟩ := hcut
      have HM9 : Hid (Mk W1 X (w.heap.size + 1) (w.heap.size + 2) (drawn k) bI (i + 1) (i + 1) i i (.slice s1' (i + 1) k1') (.slice s2' (i + 1) k2') (.slice s3 i k3) (.slice s4 i k4) W9) := hM9
      have HC9 : Hid (CurAt W9 X ca cc k (st k 3 c)) := hC9
      clear hM9 hC9 HNX HPK HF hw1 hw2 hml hb1 hb2 HM6 HC6 x1 f1
      obtain ⟨F3, hF3⟩ : ∃ F3, F3 = (st k 3 c).val k % 6 := ⟨_, rfl⟩
      have HO : Hid (decide (0 < F3) = (drawn k).op i) := by
        show _ = rOp k (cAt k i)
        unfold rOp
        rw [hF3, HCE.out]
      have HPK : Hid (∀ V, CurAt V X ca cc k (st k 3 c) → Calls Tryz.prog 30 #[.pointer (some ⟨X, 0, none⟩), .int .i64 6] V fun e w' => e = .returned (.int .i64 F3) ∧ CurAt w' X ca cc k (st k 4 c) ∧ Only X (X + 1) V w') := fun V hV =>
        (pick_any 6 (by omega) (by omega) X ca cc k (st k 3 c) V hn (by rw [st_pos]; omega) hV).mono fun e w' hh => ⟨by rw [hF3]; exact hh.1, hh.2.1, hh.2.2.1⟩
      clear hF3
      obtain ⟨bo, hbo⟩ : ∃ bo, decide (0 < F3) = bo := ⟨_, rfl⟩
      rw [hbo] at HO
      have x2 := HM9.out.bk.cell 2
      simp at x2
      go_wp2_with fail
      go_cut [57] (fun _ wz => ∃ s3' k3', Mk W1 X (w.heap.size + 1) (w.heap.size + 2) (drawn k) bI (i + 1) (i + 1) (i + 1) i (.slice s1' (i + 1) k1') (.slice s2' (i + 1) k2') (.slice s3' (i + 1) k3') (.slice s4 i k4) wz ∧ CurAt wz X ca cc k (st k 4 c))
      case first =>
        go_region_law
          (first
            | ((refine step_append_lies _ (by rfl) (.tmp 52) (.tmp 56) 24 (by rfl) (w.heap.size + 2) 4 ib (.bool false) 1 1 Tryz.uBools hib hzb0 hzb1 hzb2 rfl (by omega) (.slice s3 i k3) i (vO (drawn k) i) (by rfl) (HM10.out.o3.alloc _) ⟨w10.heap.size, 0, none⟩ 1 1 [.bool bo] (by rfl) (by rfl) (World.news_of_block (cs := #[.bool bo]) (t := 4) (fr := (0, 0)) (heap_alloc_new w10 _)) (by simp [Value.oneCell']) (by omega) (by unfold maxLen; omega) (by omega) (by simp; omega) (w10.heap.size + 1) (by simp) ?_; intro g cap w11 ho11 hg11 hat11 hlt11; have hB11 := (HM10.out.base (by omega) (by rw [HW1.out]; exact Nat.le_refl _) hg11 (fun g e => (HM10.out.o3.lt g e).1)).2.1; have x11 := hB11.cell 2; have f11 := hB11.free 2; simp at x11))
            | ((go_simp; go_at_call 30; refine (HPK.out _ ?_).mono ?_; exact HC9.out.only (Below.refl _ _).drew hX HC.out; rintro e w10 ⟨rfl, hc10, ho10⟩; have HM10 : Hid (Mk W1 X (w.heap.size + 1) (w.heap.size + 2) (drawn k) bI (i + 1) (i + 1) i i (.slice s1' (i + 1) k1') (.slice s2' (i + 1) k2') (.slice s3 i k3) (.slice s4 i k4) w10) := HM9.out.drew.cur (by omega) (by omega) ho10; have x10 := HM10.out.bk.cell 2; have l10 := HM10.out.bk.lt; simp at x10; dsimp only)))
        all_goals
          go_wp2_with fail
          go_meet
          exact ⟨some ⟨g, 0, none⟩, cap, HM10.out.appO (by omega) (by rw [HW1.out]; exact Nat.le_refl _) (by rw [← HO.out]; exact ho11) hg11 (near_lies hat11), hc10.only (bel_step (by omega) (by omega) (Nat.le_add_right _ 2) hg11 (fun g e => (HM10.out.o3.lt g e).1)) hX HC.out⟩
      case rest =>
      obtain ⟨W11, rfl⟩ : ∃ W11, W11 = wc := ⟨wc, rfl⟩
      obtain ⟨s3', k3', hM11, hC11⟩ := hcut
      clear HPK HO hbo x2 HM9 HC9
      have hB11 : w.heap.size + 2 ≤ W11.heap.size := hM11.bk.lt
      have HB12 : Hid (MkB W1 X (w.heap.size + 1) (w.heap.size + 2) (drawn k) bI (i + 1) (i + 1) (i + 1) i (.slice s1' (i + 1) k1') (.slice s2' (i + 1) k2') (.slice s3' (i + 1) k3') (.slice s4 i k4) W11.heap.size (fun _ => true) (W11.alloc (.cells #[.bool true, .bool true, .bool true, .bool true] 4))) := MkB.new hM11 hB11
      have HC12 : Hid (CurAt (W11.alloc (.cells #[.bool true, .bool true, .bool true, .bool true] 4)) X ca cc k (st k 4 c)) := hC11.only ((Below.refl _ _).alloc (by omega) _) hX HC.out
      obtain ⟨bw, hbw⟩ : ∃ bw, bw = W11.heap.size := ⟨_, rfl⟩
      rw [← hbw] at HB12
      have HBW : Hid (bw = W11.heap.size) := hbw
      clear hM11 hC11 hB11 hbw
      go_wp2_with fail
      rw [← HBW.out]
      generalize (W11.alloc (.cells #[.bool true, .bool true, .bool true, .bool true] 4)) = W12 at *
      refine (pick_any 4 (by omega) (by omega) X ca cc k (st k 4 c) W12 hn (by rw [st_pos]; omega) HC12.out).mono ?_
      rintro e w13 ⟨rfl, hc13, ho13, -⟩
      have HB13 : Hid (MkB W1 X (w.heap.size + 1) (w.heap.size + 2) (drawn k) bI (i + 1) (i + 1) (i + 1) i (.slice s1' (i + 1) k1') (.slice s2' (i + 1) k2') (.slice s3' (i + 1) k3') (.slice s4 i k4) bw (fun _ => true) w13) := HB12.out.cur (by omega) (by omega) ho13
      have HC13 : Hid (CurAt w13 X ca cc k (st k 5 c)) := hc13
      obtain ⟨F4, hF4⟩ : ∃ F4, F4 = (st k 4 c).val k % 4 := ⟨_, rfl⟩
      rw [← hF4]
      have HF4 : Hid (F4 = (st k 4 c).val k % 4) := hF4
      clear hc13 ho13 HB12 HC12 hF4
      go_upto_if 62 with fail
      go_cut [66] (fun _ wz => MkB W1 X (w.heap.size + 1) (w.heap.size + 2) (drawn k) bI (i + 1) (i + 1) (i + 1) i (.slice s1' (i + 1) k1') (.slice s2' (i + 1) k2') (.slice s3' (i + 1) k3') (.slice s4 i k4) bw (rW1 k c) wz ∧ CurAt wz X ca cc k (rC k c))
      case first =>
        by_cases hq : F4 = 0
        · have z : (F4 == 0) = true := by rw [beq_iff_eq]; exact hq
          have HQ : Hid (rW1 k c = less (fun _ => true) ((st k 5 c).val k % 4).toNat ∧ rC k c = st k 6 c) := by
            have e := HF4.out.symm.trans hq
            exact ⟨by unfold rW1; rw [if_pos e], by unfold rC; rw [if_pos e]⟩
          clear hq
          go_wp2_with fail
          refine (pick_any 4 (by omega) (by omega) X ca cc k (st k 5 c) w13 hn (by rw [st_pos]; omega) HC13.out).mono ?_
          rintro e w14 ⟨rfl, hc14, ho14, -⟩
          have HB14 := HB13.out.cur (by omega) (by omega) ho14
          have hvb := val_bd HK.out (st k 5 c)
          obtain ⟨j, hj⟩ : ∃ j : Nat, (st k 5 c).val k % 4 = j := ⟨((st k 5 c).val k % 4).toNat, by omega⟩
          have hj4 : j < 4 := by omega
          have HJ : Hid (((st k 5 c).val k % 4).toNat = j) := by show _ = _; omega
          rw [hj]
          clear hj hvb
          have hcj := HB14.row.cell hj4
          have hfj := HB14.row.frozen j
          have HB15 : Hid (MkB W1 X (w.heap.size + 1) (w.heap.size + 2) (drawn k) bI (i + 1) (i + 1) (i + 1) i (.slice s1' (i + 1) k1') (.slice s2' (i + 1) k2') (.slice s3' (i + 1) k3') (.slice s4 i k4) bw (less (fun _ => true) j) (w14.setCell ⟨bw, j, none⟩ (.bool false))) := HB14.store (by rw [HW1.out]; exact Nat.le_refl _) (by omega) j
          have HC15 : Hid (CurAt (w14.setCell ⟨bw, j, none⟩ (.bool false)) X ca cc k (st k 6 c)) := hc14.only ((Below.refl w.heap.size _).setCell (by show w.heap.size ≤ bw; have := HB14.lo; omega) _) hX HC.out
          clear HB14 hc14 ho14
          go_wp2
          go_meet
          rw [HQ.out.1, HQ.out.2, HJ.out]
          exact ⟨HB15.out, HC15.out⟩
        · have z : (F4 == 0) = false := by rw [beq_eq_false_iff_ne]; exact hq
          have HQ : Hid (rW1 k c = (fun _ => true) ∧ rC k c = st k 5 c) := by
            have e : ¬ (st k 4 c).val k % 4 = 0 := fun e => hq (HF4.out.trans e)
            exact ⟨by unfold rW1; rw [if_neg e], by unfold rC; rw [if_neg e]⟩
          clear hq
          go_wp2
          go_meet
          rw [HQ.out.1, HQ.out.2]
          exact ⟨HB13.out, HC13.out⟩
      case rest =>
      obtain ⟨W15, rfl⟩ : ∃ W15, W15 = wc := ⟨wc, rfl⟩
      obtain ⟨hB15, hC15⟩ := hcut
      have HB15 : Hid (MkB W1 X (w.heap.size + 1) (w.heap.size + 2) (drawn k) bI (i + 1) (i + 1) (i + 1) i (.slice s1' (i + 1) k1') (.slice s2' (i + 1) k2') (.slice s3' (i + 1) k3') (.slice s4 i k4) bw (rW1 k c) W15) := hB15
      have HC15 : Hid (CurAt W15 X ca cc k (rC k c)) := hC15
      clear hB15 hC15 HB13 HC13 HF4 HBW
      have hrp := rC_pos k c
      obtain ⟨c6, hc6⟩ : ∃ c6, c6 = rC k c := ⟨_, rfl⟩
      rw [← hc6] at HC15 hrp
      have HC6 : Hid (c6 = rC k c) := hc6
      clear hc6
      go_wp2_with fail
      refine (pick_any 9 (by omega) (by omega) X ca cc k c6 W15 hn (by omega) HC15.out).mono ?_
      rintro e w16 ⟨rfl, hc16, ho16, -⟩
      have HB16 : Hid (MkB W1 X (w.heap.size + 1) (w.heap.size + 2) (drawn k) bI (i + 1) (i + 1) (i + 1) i (.slice s1' (i + 1) k1') (.slice s2' (i + 1) k2') (.slice s3' (i + 1) k3') (.slice s4 i k4) bw (rW1 k c) w16) := HB15.out.cur (by omega) (by omega) ho16
      have HC16 : Hid (CurAt w16 X ca cc k (st k 1 c6)) := hc16
      obtain ⟨F6, hF6⟩ : ∃ F6, F6 = c6.val k % 9 := ⟨_, rfl⟩
      rw [← hF6]
      have HF6 : Hid (F6 = c6.val k % 9) := hF6
      clear hc16 ho16 HB15 HC15 hF6
      go_upto_if 69 with fail
      go_cut [73] (fun _ wz => MkB W1 X (w.heap.size + 1) (w.heap.size + 2) (drawn k) bI (i + 1) (i + 1) (i + 1) i (.slice s1' (i + 1) k1') (.slice s2' (i + 1) k2') (.slice s3' (i + 1) k3') (.slice s4 i k4) bw (rW k c) wz ∧ CurAt wz X ca cc k (rE k c))
      case first =>
        by_cases hq : F6 = 0
        · have z : (F6 == 0) = true := by rw [beq_iff_eq]; exact hq
          have HQ : Hid (rW k c = less (less (rW1 k c) ((st k 1 c6).val k % 4).toNat) ((st k 2 c6).val k % 4).toNat ∧ rE k c = st k 3 c6) := by
            have e := HF6.out.symm.trans hq
            rw [HC6.out] at e ⊢
            exact ⟨by unfold rW; rw [if_pos e], by unfold rE; rw [if_pos e]⟩
          clear hq
          go_wp2_with fail
          refine (pick_any 4 (by omega) (by omega) X ca cc k (st k 1 c6) w16 hn (by rw [st_pos]; omega) HC16.out).mono ?_
          rintro e w17 ⟨rfl, hc17, ho17, -⟩
          have HB17 := HB16.out.cur (by omega) (by omega) ho17
          have hvb := val_bd HK.out (st k 1 c6)
          obtain ⟨j, hj⟩ : ∃ j : Nat, (st k 1 c6).val k % 4 = j := ⟨((st k 1 c6).val k % 4).toNat, by omega⟩
          have hj4 : j < 4 := by omega
          have HJ : Hid (((st k 1 c6).val k % 4).toNat = j) := by show _ = _; omega
          rw [hj]
          clear hj hvb
          have hcj := HB17.row.cell hj4
          have hfj := HB17.row.frozen j
          have HB18 : Hid (MkB W1 X (w.heap.size + 1) (w.heap.size + 2) (drawn k) bI (i + 1) (i + 1) (i + 1) i (.slice s1' (i + 1) k1') (.slice s2' (i + 1) k2') (.slice s3' (i + 1) k3') (.slice s4 i k4) bw (less (rW1 k c) j) (w17.setCell ⟨bw, j, none⟩ (.bool false))) := HB17.store (by rw [HW1.out]; exact Nat.le_refl _) (by omega) j
          have HC18 : Hid (CurAt (w17.setCell ⟨bw, j, none⟩ (.bool false)) X ca cc k (st k 2 c6)) := hc17.only ((Below.refl w.heap.size _).setCell (by show w.heap.size ≤ bw; have := HB17.lo; omega) _) hX HC.out
          clear HB17 hc17 ho17
          go_wp2_with fail
          generalize (w17.setCell ⟨bw, j, none⟩ (.bool false)) = W18 at *
          refine (pick_any 4 (by omega) (by omega) X ca cc k (st k 2 c6) W18 hn (by rw [st_pos]; omega) HC18.out).mono ?_
          rintro e w19 ⟨rfl, hc19, ho19, -⟩
          have HB19 := HB18.out.cur (by omega) (by omega) ho19
          have hvb := val_bd HK.out (st k 2 c6)
          obtain ⟨j', hj'⟩ : ∃ j' : Nat, (st k 2 c6).val k % 4 = j' := ⟨((st k 2 c6).val k % 4).toNat, by omega⟩
          have hj4' : j' < 4 := by omega
          have HJ' : Hid (((st k 2 c6).val k % 4).toNat = j') := by show _ = _; omega
          rw [hj']
          clear hj' hvb hcj hfj
          have hcj := HB19.row.cell hj4'
          have hfj := HB19.row.frozen j'
          have HB20 : Hid (MkB W1 X (w.heap.size + 1) (w.heap.size + 2) (drawn k) bI (i + 1) (i + 1) (i + 1) i (.slice s1' (i + 1) k1') (.slice s2' (i + 1) k2') (.slice s3' (i + 1) k3') (.slice s4 i k4) bw (less (less (rW1 k c) j) j') (w19.setCell ⟨bw, j', none⟩ (.bool false))) := HB19.store (by rw [HW1.out]; exact Nat.le_refl _) (by omega) j'
          have HC20 : Hid (CurAt (w19.setCell ⟨bw, j', none⟩ (.bool false)) X ca cc k (st k 3 c6)) := hc19.only ((Below.refl w.heap.size _).setCell (by show w.heap.size ≤ bw; have := HB19.lo; omega) _) hX HC.out
          clear HB19 hc19 ho19
          go_wp2
          go_meet
          rw [HQ.out.1, HQ.out.2, HJ.out, HJ'.out]
          exact ⟨HB20.out, HC20.out⟩
        · have z : (F6 == 0) = false := by rw [beq_eq_false_iff_ne]; exact hq
          have HQ : Hid (rW k c = rW1 k c ∧ rE k c = st k 1 c6) := by
            have e : ¬ (rC k c).val k % 9 = 0 := fun e => hq (by rw [HF6.out, HC6.out]; exact e)
            rw [HC6.out]
            exact ⟨by unfold rW; rw [if_neg e], by unfold rE; rw [if_neg e]⟩
          clear hq
          go_wp2
          go_meet
          rw [HQ.out.1, HQ.out.2]
          exact ⟨HB16.out, HC16.out⟩
      case rest =>
      obtain ⟨W20, rfl⟩ : ∃ W20, W20 = wc := ⟨wc, rfl⟩
      obtain ⟨hB20, hC20⟩ := hcut
      rw [show rW k c = (drawn k).wk i by rw [HCE.out]; rfl] at hB20
      rw [show rE k c = cAt k (i + 1) by rw [HCE.out]; rfl] at hC20
      clear HB16 HC16 HF6 HC6
      have x3 := hB20.mm.bk.cell 3
      have f3 := hB20.mm.bk.free 3
      have hR20 := hB20.mm.bk.lt
      simp at x3
      have ho4 := hB20.mm.o4
      have HB20 : Hid (MkB W1 X (w.heap.size + 1) (w.heap.size + 2) (drawn k) bI (i + 1) (i + 1) (i + 1) i (.slice s1' (i + 1) k1') (.slice s2' (i + 1) k2') (.slice s3' (i + 1) k3') (.slice s4 i k4) bw ((drawn k).wk i) W20) := hB20
      have HC20 : Hid (CurAt W20 X ca cc k (cAt k (i + 1))) := hC20
      clear hB20 hC20
      go_wp2_with (at_builtin; (refine wpList_append_own_at _ rfl _ _ 25 rfl (w.heap.size + 2) 24 ic (.slice none 0 0) 1 24 Tryz.uBoolss hic hzc0 hzc1 hzc2 rfl (by decide) (.slice s4 i k4) i (vW bI i) rfl (ho4.alloc _) ⟨W20.heap.size, 0, none⟩ 1 1 [.slice (some ⟨bw, 0, none⟩) 4 4] rfl rfl (cell_one_new _ _ _) (by simp [Value.oneCell']) (by unfold maxLen; omega) (by omega) (by simp; omega) ?_; intro v' w21 hown' hgrow hnil hloc; obtain ⟨s4', k4', rfl⟩ := own_shape hown'; have HM21 : Hid (Mk W1 X (w.heap.size + 1) (w.heap.size + 2) (drawn k) (fun j => if j = i then bw else bI j) (i + 1) (i + 1) (i + 1) (i + 1) (.slice s1' (i + 1) k1') (.slice s2' (i + 1) k2') (.slice s3' (i + 1) k3') (.slice s4' (i + 1) k4') (w21.setCell ⟨w.heap.size + 1, 3, none⟩ (.slice s4' (i + 1) k4'))) := HB20.out.mm.appW (by omega) (by rw [HW1.out]; exact Nat.le_refl _) HB20.out.row HB20.out.lo (fun e => Nat.lt_irrefl _ (HB20.out.f3 _ e)) HB20.out.fi hown' hgrow; have HC21 : Hid (CurAt (w21.setCell ⟨w.heap.size + 1, 3, none⟩ (.slice s4' (i + 1) k4')) X ca cc k (cAt k (i + 1))) := HC20.out.only (bel_step (by omega) (by omega) (Nat.le_add_right _ 2) hgrow (fun g e => (ho4.lt g e).1)) hX HC.out; have hB21 := (HB20.out.mm.base (by omega) (by rw [HW1.out]; exact Nat.le_refl _) hgrow (fun g e => (ho4.lt g e).1)).2.1; have x3' := hB21.cell 3; have f3' := hB21.free 3; simp at x3'; clear hown' hgrow hnil hloc))
      go_roundg (dN k - (i + 1))
      case measure => omega
      case rel => exact ⟨i + 1, _, _, _, _, _, by omega, by go_num, HM21.out, HC21.out⟩
    · obtain rfl : i = dN k := by omega
      obtain ⟨s1, k1, rfl⟩ := own_shape hM.o1
      obtain ⟨s2, k2, rfl⟩ := own_shape hM.o2
      obtain ⟨s3, k3, rfl⟩ := own_shape hM.o3
      obtain ⟨s4, k4, rfl⟩ := own_shape hM.o4
      have x0 := hM.bk.cell 0
      have x1 := hM.bk.cell 1
      have x2 := hM.bk.cell 2
      have x3 := hM.bk.cell 3
      have hbs := hM.on.blk bs1 (Or.inr (by omega))
      have y0 := hbs.cell 0
      have y1 := hbs.cell 1
      have y2 := hbs.cell 2
      have y3 := hbs.cell 3
      have g0 := hbs.free 0
      have g1 := hbs.free 1
      have g2 := hbs.free 2
      have g3 := hbs.free 3
      simp at x0 x1 x2 x3 y0 y1 y2 y3
      have HF : Hid (Made w.heap.size (drawn k) s1 s2 s3 s4 bI ((((wr.setCell ⟨w.heap.size, 0, none⟩ (.slice s1 (dN k) k1)).setCell ⟨w.heap.size, 1, none⟩ (.slice s2 (dN k) k2)).setCell ⟨w.heap.size, 2, none⟩ (.slice s3 (dN k) k3)).setCell ⟨w.heap.size, 3, none⟩ (.slice s4 (dN k) k4))) := ((((((hM.made rfl rfl rfl rfl).low (p := ⟨w.heap.size, 0, none⟩) (by show w.heap.size < w.heap.size + 2; omega) _).low (p := ⟨w.heap.size, 1, none⟩) (by show w.heap.size < w.heap.size + 2; omega) _).low (p := ⟨w.heap.size, 2, none⟩) (by show w.heap.size < w.heap.size + 2; omega) _).low (p := ⟨w.heap.size, 3, none⟩) (by show w.heap.size < w.heap.size + 2; omega) _)).wide (Nat.le_add_right _ _)
      have HO : Hid (Only X (X + 1) w ((((wr.setCell ⟨w.heap.size, 0, none⟩ (.slice s1 (dN k) k1)).setCell ⟨w.heap.size, 1, none⟩ (.slice s2 (dN k) k2)).setCell ⟨w.heap.size, 2, none⟩ (.slice s3 (dN k) k3)).setCell ⟨w.heap.size, 3, none⟩ (.slice s4 (dN k) k4))) := only4 bl1 hM.on _ _ _ _
      have hbf := (((hbs.set 0 (.slice s1 (dN k) k1)).set 1 (.slice s2 (dN k) k2)).set 2 (.slice s3 (dN k) k3)).set 3 (.slice s4 (dN k) k4)
      clear hM hC
      go_wp2
      generalize ((((wr.setCell ⟨w.heap.size, 0, none⟩ (.slice s1 (dN k) k1)).setCell ⟨w.heap.size, 1, none⟩ (.slice s2 (dN k) k2)).setCell ⟨w.heap.size, 2, none⟩ (.slice s3 (dN k) k3)).setCell ⟨w.heap.size, 3, none⟩ (.slice s4 (dN k) k4)) = Wf at *
      have z0 := hbf.cell 0
      have z1 := hbf.cell 1
      have z2 := hbf.cell 2
      have z3 := hbf.cell 3
      simp at z0 z1 z2 z3
      exact bodyPost_ret (v := .agg #[.slice s1 (dN k) k1, .slice s2 (dN k) k2, .slice s3 (dN k) k3, .slice s4 (dN k) k4]) (by simp [results, Tryz.results11, go_sem, z0, z1, z2, z3]) rfl ⟨⟨s1, s2, s3, s4, k1, k2, k3, k4, bI, rfl, HF.out⟩, HO.out⟩

end Go.Proofs.YtachkoledebanaaGreatDoor
