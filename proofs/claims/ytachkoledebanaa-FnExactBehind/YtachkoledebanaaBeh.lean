/-
  Behind: the document's.
-/
import Derived.Test.YtachkoledebanaaBh
namespace Go.Proofs.Ytachkoledebanaa
open Go.RowKit

set_option maxHeartbeats 2000000 in
theorem specBehind_any (a1 a2 a3 a4 : Option Addr) (c1 c2 c3 c4 : Nat) (A : Nat → Option Addr) (C : Nat → Nat) (d : RD) (s : Int) (w : World) (hs : Small d) (h : RowAt w a1 a2 a3 a4 A C d) :
    Calls Try.prog 40 #[.agg #[.slice a1 d.nN c1, .slice a2 d.nF c2, .slice a3 d.nO c3, .slice a4 d.nW c4], .int .i64 s] w fun e w' =>
      (∃ xs, IsBehind d s xs ∧ RetInts e w.heap.size w' xs) ∧ Below w.heap.size w w' := by
  obtain ⟨i0, hi, hz0, hz1, hz2⟩ := info_parts Try.iInt
  have bel : Below w.heap.size w (w.alloc (.cells #[.slice a1 d.nN c1, .slice a2 d.nF c2, .slice a3 d.nO c3, .slice a4 d.nW c4] 27)) := (Below.refl _ _).alloc (Nat.le_refl _) _
  have hk := h.keep bel
  have hbk := Blk.new w #[.slice a1 d.nN c1, .slice a2 d.nF c2, .slice a3 d.nO c3, .slice a4 d.nW c4] 27
  have hsz : (w.alloc (.cells #[.slice a1 d.nN c1, .slice a2 d.nF c2, .slice a3 d.nO c3, .slice a4 d.nW c4] 27)).heap.size = w.heap.size + 1 := by simp
  clear h
  go_enter Try.func40, Try.ntmps40
  go_wp2_with fail
  generalize (w.alloc (.cells #[.slice a1 d.nN c1, .slice a2 d.nF c2, .slice a3 d.nO c3, .slice a4 d.nW c4] 27)) = W at *
  refine (specRowOk_any a1 a2 a3 a4 c1 c2 c3 c4 A C d W hs hk).mono ?_
  rintro e w1 ⟨⟨r, rfl, hr⟩, hb1⟩
  have bel1 : Below w.heap.size w w1 := chain bel hb1
  by_cases hr0 : r = 0
  case neg =>
    have z : (r != 0) = true := by rw [bne_iff_ne]; exact hr0
    have HB : Hid (IsBehind d s []) := Or.inr ⟨fun u => hr0 (hr.zero u.1), rfl⟩
    clear hk hbk hsz hb1 hr hs
    go_wp2
    go_ret
    exact ⟨⟨[], HB.out, .nil rfl⟩, bel1⟩
  subst hr0
  have hR : Hid (Right d) := hr.rt
  have h60 : d.nN ≤ 60 := hR.out.s.nN
  have z : ((0 : Int) != 0) = false := by simp
  have hk1 := hk.keep hb1
  have hbr := hbk.keep hb1
  have b0 := hbr.cell 0
  simp at b0
  clear hbk hk hsz hb1 bel hr hbr
  by_cases g1 : 0 ≤ s
  case neg =>
    have HB : Hid (IsBehind d s []) := Or.inr ⟨fun u => g1 u.2.1, rfl⟩
    clear hk1 hs
    go_wp2
    go_ret
    exact ⟨⟨[], HB.out, .nil rfl⟩, bel1⟩
  by_cases g2 : s < d.nN
  case neg =>
    have HB : Hid (IsBehind d s []) := Or.inr ⟨fun u => g2 u.2.2, rfl⟩
    have z2 : decide (s ≤ (d.nN : Int) - 1) = false := by simp; omega
    clear hk1 hs
    go_wp2
    go_ret
    exact ⟨⟨[], HB.out, .nil rfl⟩, bel1⟩
  have z2 : decide (s ≤ (d.nN : Int) - 1) = true := by simp; omega
  have hnx := hk1.nx
  have HB : Hid (IsBehind d s (bh d s d.nN)) := Or.inl ⟨hR.out, g1, g2, rfl⟩
  clear hk1 hs
  go_wp2
  go_loopw [5, 23] (fun v i wr => ∃ k : Nat, k ≤ d.nN ∧ i = .int .i64 k ∧ wr.ownsRow w1.heap.size 3 1 v (bh d s k).length ((bh d s k).map (Value.int .i64)) ∧ Below w1.heap.size w1 wr) (fun _ i _ => d.nN - (intOf i).toNat)
  case atStart => exact ⟨0, Nat.zero_le _, rfl, World.ownsRow_nil _ _ _ _, Below.refl _ _⟩
  case round =>
    obtain ⟨k, hkn, rfl, hown, hb⟩ := hrel
    have hle := bh_le d s k
    have hwz := hb.size
    by_cases hlt : k < d.nN
    · obtain ⟨b, o, rfl, hc⟩ := (hnx.keep hb) k hlt
      clear hnx
      by_cases q : d.nx k = s
      · have q1 : (d.nx k == s) = true := by rw [beq_iff_eq]; exact q
        have HY : Hid (bh d s (k + 1) = bh d s k ++ [(k : Int)]) := bh_yes q1
        clear q
        go_wp2_with (at_builtin; refine wpList_append_own _ rfl _ _ 23 rfl w1.heap.size 3 i0 (.int .i64 0) 1 8 Try.uInts hi hz0 hz1 hz2 rfl (by decide) _ _ _ rfl (hown.alloc _) ⟨wr.heap.size, 0, none⟩ 1 1 [.int .i64 (k : Int)] rfl rfl (cell_one_new _ _ _) (ints_oneCell .i64 [(k : Int)]) (by unfold maxLen; omega) (by omega) (by simp; omega) ?_; intro v' w2 hown' hgrow hnil)
        have HO : Hid (w2.ownsRow w1.heap.size 3 1 v' (bh d s (k + 1)).length ((bh d s (k + 1)).map (Value.int .i64))) := by show World.ownsRow _ _ _ _ _ _ _; rw [HY.out]; simpa using hown'
        have HBl : Hid (Below w1.heap.size w1 w2) := app_below hb hwz hown hgrow
        clear hown' hgrow hnil hown
        go_roundw
        case rel => exact ⟨v', _, _, .int .i64 ((k : Int) + 1), ⟨k + 1, by omega, by go_num, HO.out, HBl.out⟩, rfl, rfl, rfl, rfl⟩
        case measure => simp [intOf]; omega
      · have q1 : (d.nx k == s) = false := by rw [beq_eq_false_iff_ne]; exact q
        have HY : Hid (bh d s (k + 1) = bh d s k) := bh_no q1
        clear q
        go_wp2
        go_roundw
        case rel => exact ⟨k + 1, by omega, by go_num, by rw [HY.out]; exact hown, hb⟩
        case measure => simp [intOf]; omega
    · obtain rfl : k = d.nN := by omega
      have HBl : Below w.heap.size w wr := chain bel1 hb
      have HR : Hid (RetInts (.returned u5) w.heap.size wr (bh d s d.nN)) := (RetInts.ofOwns rfl hown).wide bel1.size
      clear hnx hb hown
      go_wp2
      go_ret
      exact ⟨⟨_, HB.out, HR.out⟩, HBl⟩

end Go.Proofs.Ytachkoledebanaa
