/-
  MadeLine: signals one after the other.
-/
import Derived.Test.YtachkoledebanaaRows3
namespace Go.Proofs.Ytachkoledebanaa
open Go.RowKit

/-- n signals in a line, all open, all lamps at work -/
def lineD (n : Nat) : RD := ⟨n, fun i => (i : Int) - 1, n, fun _ => 100, n, fun _ => true, n, fun _ => 4, fun _ _ => true⟩

theorem line_right {n : Nat} (h : n ≤ 20) : Right (lineD n) := by
  refine ⟨⟨by show n ≤ 60; omega, rfl, rfl, rfl⟩, fun i hi => ?_, fun i _ => rfl⟩
  have hi' : i < n := hi
  exact ⟨⟨by show -1 ≤ (i : Int) - 1; omega, by show (i : Int) - 1 < (n : Int); omega⟩, by show (0 : Int) ≤ 100; omega, by show (100 : Int) ≤ 1000000; omega⟩

set_option maxHeartbeats 8000000 in
set_option maxRecDepth 100000 in
theorem madeLine_any (n : Nat) (hn : n ≤ 20) (w : World) :
    Calls Try.prog 34 #[.int .i64 n, .int .i64 100] w fun e w' => RetRow e w.heap.size (lineD n) w' ∧ Below w.heap.size w w' := by
  obtain ⟨i0, hi, hz0, hz1, hz2⟩ := info_parts Try.iInt
  obtain ⟨ib, hib, hzb0, hzb1, hzb2⟩ := info_parts Try.iBool
  obtain ⟨ic, hic, hzc0, hzc1, hzc2⟩ := info_parts Try.iBools
  have hs1 : (w.alloc (.cells #[.slice none 0 0, .slice none 0 0, .slice none 0 0, .slice none 0 0] 27)).heap.size = w.heap.size + 1 := by simp
  have bl1 : Below w.heap.size w (w.alloc (.cells #[.slice none 0 0, .slice none 0 0, .slice none 0 0, .slice none 0 0] 27)) := (Below.refl _ _).alloc (Nat.le_refl _) _
  have bs1 := Blk.new w #[.slice none 0 0, .slice none 0 0, .slice none 0 0, .slice none 0 0] 27
  have HW1 : Hid ((w.alloc (.cells #[.slice none 0 0, .slice none 0 0, .slice none 0 0, .slice none 0 0] 27)).heap.size = w.heap.size + 1) := hs1
  have bs2 := Blk.new (w.alloc (.cells #[.slice none 0 0, .slice none 0 0, .slice none 0 0, .slice none 0 0] 27)) #[.slice none 0 0, .slice none 0 0, .slice none 0 0, .slice none 0 0] 27
  rw [hs1] at bs2
  have HM0 : Hid (Mk (w.alloc (.cells #[.slice none 0 0, .slice none 0 0, .slice none 0 0, .slice none 0 0] 27)) (w.heap.size + 1) (w.heap.size + 1) (w.heap.size + 2) (lineD n) (fun _ => 0) 0 0 0 0 (.slice none 0 0) (.slice none 0 0) (.slice none 0 0) (.slice none 0 0) ((w.alloc (.cells #[.slice none 0 0, .slice none 0 0, .slice none 0 0, .slice none 0 0] 27)).alloc (.cells #[.slice none 0 0, .slice none 0 0, .slice none 0 0, .slice none 0 0] 27))) :=
    ⟨.ofBelow ((Below.refl _ _).alloc (Nat.le_refl _) _), bs2, World.ownsRow_nil _ _ _ _, World.ownsRow_nil _ _ _ _, World.ownsRow_nil _ _ _ _, World.ownsRow_nil _ _ _ _, fun g e => by simp [Value.ownBlock] at e, fun j hj => absurd hj (Nat.not_lt_zero _), fun i j _ hj => absurd hj (Nat.not_lt_zero _)⟩
  clear bs2 hs1
  go_enter Try.func34, Try.ntmps34
  go_wp2
  generalize ((w.alloc (.cells #[.slice none 0 0, .slice none 0 0, .slice none 0 0, .slice none 0 0] 27)).alloc (.cells #[.slice none 0 0, .slice none 0 0, .slice none 0 0, .slice none 0 0] 27)) = W2 at *
  generalize (w.alloc (.cells #[.slice none 0 0, .slice none 0 0, .slice none 0 0, .slice none 0 0] 27)) = W1 at *
  go_loopg [6] n (fun g t wr => ∃ (i : Nat) (v1 v2 v3 v4 : Value) (bI : Nat → Nat), i + g = n ∧ t = .int .i64 i ∧ Mk W1 (w.heap.size + 1) (w.heap.size + 1) (w.heap.size + 2) (lineD n) bI i i i i v1 v2 v3 v4 wr)
  case atStart => exact ⟨0, _, _, _, _, _, Nat.zero_add _, rfl, HM0.out⟩
  case round =>
    clear HM0
    obtain ⟨i, v1, v2, v3, v4, bI, hig, rfl, hM⟩ := hrel
    obtain ⟨s1, k1, rfl⟩ := own_shape hM.o1
    obtain ⟨s2, k2, rfl⟩ := own_shape hM.o2
    obtain ⟨s3, k3, rfl⟩ := own_shape hM.o3
    obtain ⟨s4, k4, rfl⟩ := own_shape hM.o4
    by_cases hlt : i < n
    · have HM : Hid (Mk W1 (w.heap.size + 1) (w.heap.size + 1) (w.heap.size + 2) (lineD n) bI i i i i (.slice s1 i k1) (.slice s2 i k2) (.slice s3 i k3) (.slice s4 i k4) wr) := hM
      have hR := hM.bk.lt
      have x0 := hM.bk.cell 0
      have f0 := hM.bk.free 0
      simp at x0
      have ho1 := hM.o1
      clear hM
      go_upto_region 6 with (at_builtin; (refine wpList_append_own_at _ rfl _ _ 23 rfl (w.heap.size + 2) 3 i0 (.int .i64 0) 1 8 Try.uInts hi hz0 hz1 hz2 rfl (by decide) (.slice s1 i k1) i (vN (lineD n) i) rfl (ho1.alloc _) ⟨wr.heap.size, 0, none⟩ 1 1 [.int .i64 ((i : Int) - 1)] rfl rfl (cell_one_new _ _ _) (ints_oneCell .i64 [((i : Int) - 1)]) (by unfold maxLen; omega) (by omega) (by simp; omega) ?_; intro v' w6 hown' hgrow hnil hloc; obtain ⟨s1', k1', rfl⟩ := own_shape hown'; have HM6 : Hid (Mk W1 (w.heap.size + 1) (w.heap.size + 1) (w.heap.size + 2) (lineD n) bI (i + 1) i i i (.slice s1' (i + 1) k1') (.slice s2 i k2) (.slice s3 i k3) (.slice s4 i k4) (w6.setCell ⟨w.heap.size + 1, 0, none⟩ (.slice s1' (i + 1) k1'))) := HM.out.appN (by omega) (by rw [HW1.out]; exact Nat.le_refl _) hown' hgrow (near_of hloc); have hB6 := (HM.out.base (by omega) (by rw [HW1.out]; exact Nat.le_refl _) hgrow (fun g e => (ho1.lt g e).1)).2.1; have x0' := hB6.cell 0; have f0' := hB6.free 0; simp at x0'))
      clear hown' hgrow hnil hloc hB6 x0' f0' x0 f0 ho1 HM hR
      generalize (w6.setCell ⟨w.heap.size + 1, 0, none⟩ (.slice s1' (i + 1) k1')) = W6 at *
      have hR := HM6.out.bk.lt
      have x1 := HM6.out.bk.cell 1
      have f1 := HM6.out.bk.free 1
      simp at x1
      have ho2 := HM6.out.o2
      go_upto_region 7 with (at_builtin; (refine wpList_append_own_at _ rfl _ _ 23 rfl (w.heap.size + 2) 3 i0 (.int .i64 0) 1 8 Try.uInts hi hz0 hz1 hz2 rfl (by decide) (.slice s2 i k2) i (vF (lineD n) i) rfl (ho2.alloc _) ⟨W6.heap.size, 0, none⟩ 1 1 [.int .i64 100] rfl rfl (cell_one_new _ _ _) (ints_oneCell .i64 [100]) (by unfold maxLen; omega) (by omega) (by simp; omega) ?_; intro v' w7 hown' hgrow hnil hloc; obtain ⟨s2', k2', rfl⟩ := own_shape hown'; have HM7 : Hid (Mk W1 (w.heap.size + 1) (w.heap.size + 1) (w.heap.size + 2) (lineD n) bI (i + 1) (i + 1) i i (.slice s1' (i + 1) k1') (.slice s2' (i + 1) k2') (.slice s3 i k3) (.slice s4 i k4) (w7.setCell ⟨w.heap.size + 1, 1, none⟩ (.slice s2' (i + 1) k2'))) := HM6.out.appF (by omega) (by rw [HW1.out]; exact Nat.le_refl _) hown' hgrow (near_of hloc); have hB6 := (HM6.out.base (by omega) (by rw [HW1.out]; exact Nat.le_refl _) hgrow (fun g e => (ho2.lt g e).1)).2.1; have x0' := hB6.cell 1; have f0' := hB6.free 1; simp at x0'))
      clear hown' hgrow hnil hloc hB6 x0' f0' x1 f1 ho2 HM6 hR
      generalize (w7.setCell ⟨w.heap.size + 1, 1, none⟩ (.slice s2' (i + 1) k2')) = W7 at *
      have hR := HM7.out.bk.lt
      have x2 := HM7.out.bk.cell 2
      have f2 := HM7.out.bk.free 2
      simp at x2
      have ho3 := HM7.out.o3
      go_upto_region 8 with (at_builtin; (refine wpList_append_own_at _ rfl _ _ 24 rfl (w.heap.size + 2) 4 ib (.bool false) 1 1 Try.uBools hib hzb0 hzb1 hzb2 rfl (by decide) (.slice s3 i k3) i (vO (lineD n) i) rfl (ho3.alloc _) ⟨W7.heap.size, 0, none⟩ 1 1 [.bool true] rfl rfl (cell_one_new _ _ _) (by simp [Value.oneCell']) (by unfold maxLen; omega) (by omega) (by simp; omega) ?_; intro v' w8 hown' hgrow hnil hloc; obtain ⟨s3', k3', rfl⟩ := own_shape hown'; have HM8 : Hid (Mk W1 (w.heap.size + 1) (w.heap.size + 1) (w.heap.size + 2) (lineD n) bI (i + 1) (i + 1) (i + 1) i (.slice s1' (i + 1) k1') (.slice s2' (i + 1) k2') (.slice s3' (i + 1) k3') (.slice s4 i k4) (w8.setCell ⟨w.heap.size + 1, 2, none⟩ (.slice s3' (i + 1) k3'))) := HM7.out.appO (by omega) (by rw [HW1.out]; exact Nat.le_refl _) hown' hgrow (near_of hloc); have hB6 := (HM7.out.base (by omega) (by rw [HW1.out]; exact Nat.le_refl _) hgrow (fun g e => (ho3.lt g e).1)).2.1; have x0' := hB6.cell 2; have f0' := hB6.free 2; simp at x0'))
      clear hown' hgrow hnil hloc hB6 x0' f0' x2 f2 ho3 HM7 hR
      generalize (w8.setCell ⟨w.heap.size + 1, 2, none⟩ (.slice s3' (i + 1) k3')) = W8 at *
      have hR := HM8.out.bk.lt
      have x3 := HM8.out.bk.cell 3
      have f3 := HM8.out.bk.free 3
      simp at x3
      have HB := MkB.new HM8.out hR
      have ho4 := HB.mm.o4
      have HB8 : Hid (MkB W1 (w.heap.size + 1) (w.heap.size + 1) (w.heap.size + 2) (lineD n) bI (i + 1) (i + 1) (i + 1) i (.slice s1' (i + 1) k1') (.slice s2' (i + 1) k2') (.slice s3' (i + 1) k3') (.slice s4 i k4) W8.heap.size (fun _ => true) (W8.alloc (.cells #[.bool true, .bool true, .bool true, .bool true] 4))) := HB
      clear HB
      go_wp2_with (at_builtin; (refine wpList_append_own_at _ rfl _ _ 25 rfl (w.heap.size + 2) 24 ic (.slice none 0 0) 1 24 Try.uBoolss hic hzc0 hzc1 hzc2 rfl (by decide) (.slice s4 i k4) i (vW bI i) rfl (ho4.alloc _) ⟨(W8.alloc (.cells #[.bool true, .bool true, .bool true, .bool true] 4)).heap.size, 0, none⟩ 1 1 [.slice (some ⟨W8.heap.size, 0, none⟩) 4 4] (by simp; rfl) rfl (cell_one_new _ _ _) (by simp [Value.oneCell']) (by unfold maxLen; omega) (by omega) (by simp; omega) ?_; intro v' w9 hown' hgrow hnil hloc; obtain ⟨s4', k4', rfl⟩ := own_shape hown'; have HM9 : Hid (Mk W1 (w.heap.size + 1) (w.heap.size + 1) (w.heap.size + 2) (lineD n) (fun j => if j = i then W8.heap.size else bI j) (i + 1) (i + 1) (i + 1) (i + 1) (.slice s1' (i + 1) k1') (.slice s2' (i + 1) k2') (.slice s3' (i + 1) k3') (.slice s4' (i + 1) k4') (w9.setCell ⟨w.heap.size + 1, 3, none⟩ (.slice s4' (i + 1) k4'))) := HB8.out.mm.appW (by omega) (by rw [HW1.out]; exact Nat.le_refl _) HB8.out.row HB8.out.lo (fun e => Nat.lt_irrefl _ (HB8.out.f3 _ e)) HB8.out.fi hown' hgrow; have hB6 := (HB8.out.mm.base (by omega) (by rw [HW1.out]; exact Nat.le_refl _) hgrow (fun g e => (ho4.lt g e).1)).2.1; have x0' := hB6.cell 3; have f0' := hB6.free 3; simp at x0'; clear hown' hgrow hnil hloc))
      go_roundg (n - (i + 1))
      case measure => omega
      case rel => exact ⟨i + 1, _, _, _, _, _, by omega, by go_num, HM9.out⟩
    · obtain rfl : i = n := by omega
      have x0 := hM.bk.cell 0
      have x1 := hM.bk.cell 1
      have x2 := hM.bk.cell 2
      have x3 := hM.bk.cell 3
      have hbs := hM.on.blk bs1 (Or.inl (by omega))
      have y0 := hbs.cell 0
      have y1 := hbs.cell 1
      have y2 := hbs.cell 2
      have y3 := hbs.cell 3
      have g0 := hbs.free 0
      have g1 := hbs.free 1
      have g2 := hbs.free 2
      have g3 := hbs.free 3
      simp at x0 x1 x2 x3 y0 y1 y2 y3
      have HF : Hid (Made w.heap.size (lineD i) s1 s2 s3 s4 bI ((((wr.setCell ⟨w.heap.size, 0, none⟩ (.slice s1 i k1)).setCell ⟨w.heap.size, 1, none⟩ (.slice s2 i k2)).setCell ⟨w.heap.size, 2, none⟩ (.slice s3 i k3)).setCell ⟨w.heap.size, 3, none⟩ (.slice s4 i k4))) := ((((((hM.made rfl rfl rfl rfl).low (p := ⟨w.heap.size, 0, none⟩) (by show w.heap.size < w.heap.size + 2; omega) _).low (p := ⟨w.heap.size, 1, none⟩) (by show w.heap.size < w.heap.size + 2; omega) _).low (p := ⟨w.heap.size, 2, none⟩) (by show w.heap.size < w.heap.size + 2; omega) _).low (p := ⟨w.heap.size, 3, none⟩) (by show w.heap.size < w.heap.size + 2; omega) _)).wide (Nat.le_add_right _ _)
      have HO : Hid (Below w.heap.size w ((((wr.setCell ⟨w.heap.size, 0, none⟩ (.slice s1 i k1)).setCell ⟨w.heap.size, 1, none⟩ (.slice s2 i k2)).setCell ⟨w.heap.size, 2, none⟩ (.slice s3 i k3)).setCell ⟨w.heap.size, 3, none⟩ (.slice s4 i k4))) := (only4 bl1 hM.on _ _ _ _).below (by omega) (Nat.le_refl _)
      have hbf := (((hbs.set 0 (.slice s1 i k1)).set 1 (.slice s2 i k2)).set 2 (.slice s3 i k3)).set 3 (.slice s4 i k4)
      clear hM
      go_wp2
      generalize ((((wr.setCell ⟨w.heap.size, 0, none⟩ (.slice s1 i k1)).setCell ⟨w.heap.size, 1, none⟩ (.slice s2 i k2)).setCell ⟨w.heap.size, 2, none⟩ (.slice s3 i k3)).setCell ⟨w.heap.size, 3, none⟩ (.slice s4 i k4)) = Wf at *
      have z0 := hbf.cell 0
      have z1 := hbf.cell 1
      have z2 := hbf.cell 2
      have z3 := hbf.cell 3
      simp at z0 z1 z2 z3
      exact bodyPost_ret (v := .agg #[.slice s1 i k1, .slice s2 i k2, .slice s3 i k3, .slice s4 i k4]) (by simp [results, Try.results34, go_sem, z0, z1, z2, z3]) rfl ⟨⟨s1, s2, s3, s4, k1, k2, k3, k4, bI, rfl, HF.out⟩, HO.out⟩

end Go.Proofs.Ytachkoledebanaa
