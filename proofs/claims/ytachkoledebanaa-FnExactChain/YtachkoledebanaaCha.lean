/-
  Chain: the document's.
-/
import Derived.Test.YtachkoledebanaaChaD
namespace Go.Proofs.Ytachkoledebanaa
open Go.RowKit

set_option maxHeartbeats 4000000 in
theorem specChain_any (a1 a2 a3 a4 : Option Addr) (c1 c2 c3 c4 : Nat) (A : Nat → Option Addr) (C : Nat → Nat) (d : RD) (s : Int) (w : World) (hs : Small d) (h : RowAt w a1 a2 a3 a4 A C d) :
    Calls Try.prog 46 #[.agg #[.slice a1 d.nN c1, .slice a2 d.nF c2, .slice a3 d.nO c3, .slice a4 d.nW c4], .int .i64 s] w fun e w' =>
      (∃ xs, IsChain d s xs ∧ RetInts e w.heap.size w' xs) ∧ Below w.heap.size w w' := by
  obtain ⟨i0, hi, hz0, hz1, hz2⟩ := info_parts Try.iInt
  have bel : Below w.heap.size w (w.alloc (.cells #[.slice a1 d.nN c1, .slice a2 d.nF c2, .slice a3 d.nO c3, .slice a4 d.nW c4] 27)) := (Below.refl _ _).alloc (Nat.le_refl _) _
  have hk := h.keep bel
  have hbk := Blk.new w #[.slice a1 d.nN c1, .slice a2 d.nF c2, .slice a3 d.nO c3, .slice a4 d.nW c4] 27
  have hsz : (w.alloc (.cells #[.slice a1 d.nN c1, .slice a2 d.nF c2, .slice a3 d.nO c3, .slice a4 d.nW c4] 27)).heap.size = w.heap.size + 1 := by simp
  clear h
  go_enter Try.func46, Try.ntmps46
  go_wp2_with fail
  generalize (w.alloc (.cells #[.slice a1 d.nN c1, .slice a2 d.nF c2, .slice a3 d.nO c3, .slice a4 d.nW c4] 27)) = W at *
  refine (specRowOk_any a1 a2 a3 a4 c1 c2 c3 c4 A C d W hs hk).mono ?_
  rintro e w1 ⟨⟨r, rfl, hr⟩, hb1⟩
  have bel1 : Below w.heap.size w w1 := chain bel hb1
  by_cases hr0 : r = 0
  case neg =>
    have z : (r != 0) = true := by rw [bne_iff_ne]; exact hr0
    have HB : Hid (IsChain d s []) := Or.inr ⟨fun u => hr0 (hr.zero u.1), rfl⟩
    clear hk hbk hsz hb1 hr hs
    go_wp2
    go_ret
    exact ⟨⟨[], HB.out, .nil rfl⟩, bel1⟩
  subst hr0
  have hR : Hid (Right d) := hr.rt
  have h60 : d.nN ≤ 60 := hR.out.s.nN
  have z : ((0 : Int) != 0) = false := by simp
  have hk1 := hk.keep hb1
  have hbr := hbk.keep hb1
  have hbs : w.heap.size < w1.heap.size := hbr.lt
  have b0 := hbr.cell 0
  simp at b0
  clear hbk hk hsz hb1 bel hr
  by_cases g1 : 0 ≤ s
  case neg =>
    have HB : Hid (IsChain d s []) := Or.inr ⟨fun u => g1 u.2.1, rfl⟩
    clear hk1 hs hbr
    go_wp2
    go_ret
    exact ⟨⟨[], HB.out, .nil rfl⟩, bel1⟩
  by_cases g2 : s < d.nN
  case neg =>
    have HB : Hid (IsChain d s []) := Or.inr ⟨fun u => g2 u.2.2, rfl⟩
    have z2 : decide (s ≤ (d.nN : Int) - 1) = false := by simp; omega
    clear hk1 hs hbr
    go_wp2
    go_ret
    exact ⟨⟨[], HB.out, .nil rfl⟩, bel1⟩
  have z2 : decide (s ≤ (d.nN : Int) - 1) = true := by simp; omega
  have hnx := hk1.nx
  have HB : Hid (∀ m, IsLen d s m → IsChain d s (chL d s m)) := fun m hm => Or.inl ⟨hR.out, g1, g2, m, hm, rfl⟩
  clear hk1 hs
  go_wp2
  go_loopw [5, 6] (fun v i wr => ∃ k : Nat, i = .int .i64 (it d s k) ∧ Going d s k ∧ -1 ≤ it d s k ∧ it d s k < d.nN ∧ wr.ownsRow w1.heap.size 3 1 v (chL d s k).length ((chL d s k).map (Value.int .i64)) ∧ Below w1.heap.size w1 wr) (fun v _ _ => d.nN - lenOf v)
  case atStart => exact ⟨0, rfl, ⟨fun j hj => absurd hj (Nat.not_lt_zero _), fun j hj => absurd hj (Nat.not_lt_zero _), fun i j _ hj => absurd hj (Nat.not_lt_zero _)⟩, by show -1 ≤ s; omega, g2, World.ownsRow_nil _ _ _ _, Below.refl _ _⟩
  case round =>
    obtain ⟨k, rfl, hgo, q1, q2, hown, hb⟩ := hrel
    have hwz := hb.size
    have hkn := hgo.le
    obtain ⟨ao, cap, hv, hsl⟩ := own_form hown
    rw [chL_len] at hv hsl
    subst hv
    have HG : Hid (Going d s k) := hgo
    have HO : Hid (wr.ownsRow w1.heap.size 3 1 (.slice ao k cap) (chL d s k).length ((chL d s k).map (Value.int .i64))) := hown
    have HBW : Below w.heap.size w wr := chain bel1 hb
    have HR : Hid (RetInts (.returned (.slice ao k cap)) w.heap.size wr (chL d s k)) := (RetInts.ofOwns rfl hown).wide bel1.size
    clear hgo hown
    by_cases hneg : it d s k = -1
    · have hL : Hid (IsLen d s k) := ⟨HG.out, Or.inl hneg⟩
      have q3 : it d s k < 0 := by omega
      clear hnx hb hsl hneg
      go_wp2
      go_ret
      exact ⟨⟨_, HB.out _ hL.out, HR.out⟩, HBW⟩
    · have q3 : 0 ≤ it d s k := by omega
      clear hneg
      go_wp2
      go_loop [31] (fun i => ∃ j : Nat, j ≤ k ∧ i = .int .i64 j ∧ ∀ l, l < j → it d s l ≠ it d s k) (fun i => k - (intOf i).toNat)
      case atStart => exact ⟨0, Nat.zero_le _, rfl, fun j hj => absurd hj (Nat.not_lt_zero _)⟩
      case round =>
        obtain ⟨j, hj, rfl, hne⟩ := hrel
        have HN : Hid (∀ l, l < j → it d s l ≠ it d s k) := hne
        clear hne
        by_cases hjk : j < k
        · obtain ⟨b, o, rfl, hc⟩ := hsl j hjk
          replace hc : wr.cell? ⟨b, o + j, none⟩ = some (.int .i64 (it d s j)) := by have := hc; simp only [chL_get d s k j hjk] at this; exact this
          by_cases q : it d s j = it d s k
          · have z3 : (it d s j == it d s k) = true := by rw [beq_iff_eq]; exact q
            have hL : Hid (IsLen d s k) := ⟨HG.out, Or.inr ⟨j, hjk, q.symm⟩⟩
            clear q hnx hb hsl
            go_wp2
            go_ret
            exact ⟨⟨_, HB.out _ hL.out, HR.out⟩, HBW⟩
          · have z3 : (it d s j == it d s k) = false := by rw [beq_eq_false_iff_ne]; exact q
            have HN' : Hid (∀ l, l < j + 1 → it d s l ≠ it d s k) := fun l hl => by
              by_cases e : l = j
              · subst e; exact q
              · exact HN.out l (by omega)
            clear q hnx hb hsl
            go_wp2
            go_round
            case rel => exact ⟨j + 1, by omega, by go_num, HN'.out⟩
            case measure => simp [intOf]; omega
        · obtain rfl : j = k := by omega
          have HG' : Hid (Going d s (j + 1)) := HG.out.succ q3 q2 HN.out
          have hlt := HG'.out.le
          have hnn : (it d s j).toNat < d.nN := by omega
          have hown := HO.out
          obtain ⟨b, o, rfl, hc⟩ := hnx (it d s j).toNat hnn
          have hbs1 := block_lt_of_cell hc
          have hway := (hR.out.w (it d s j).toNat hnn).1
          have HI : Hid (it d s (j + 1) = d.nx (it d s j).toNat) := rfl
          clear b0
          go_wp2_with (at_builtin; refine wpList_append_own _ rfl _ _ 23 rfl w1.heap.size 3 i0 (.int .i64 0) 1 8 Try.uInts hi hz0 hz1 hz2 rfl (by decide) _ _ _ rfl (hown.alloc _) ⟨wr.heap.size, 0, none⟩ 1 1 [.int .i64 (it d s j)] rfl rfl (cell_one_new _ _ _) (ints_oneCell .i64 [it d s j]) (by unfold maxLen; rw [chL_len]; omega) (by rw [chL_len]; omega) (by simp; omega) ?_; intro v' w2 hown' hgrow hnil; have HBl : Hid (Below w1.heap.size w1 w2) := app_below hb hwz hown hgrow; have e0 := (hbr.below HBl.out hbs).cell 0; have e1 := (HBl.out.cell (p := ⟨b, o + (it d s j).toNat, none⟩) hbs1).trans hc; simp at e0)
          have HO2 : Hid (w2.ownsRow w1.heap.size 3 1 v' (chL d s (j + 1)).length ((chL d s (j + 1)).map (Value.int .i64))) := by show World.ownsRow _ _ _ _ _ _ _; rw [chL_snoc]; simpa using hown'
          have HLn : lenOf v' = j + 1 := by have := lenOf_owns hown'; rwa [chL_len] at this
          clear hown' hgrow hnil hown
          go_roundw
          case rel => exact ⟨_, v', _, ⟨j + 1, by rw [HI.out], HG'.out, by rw [HI.out]; exact hway.1, by rw [HI.out]; exact hway.2, HO2.out, HBl.out⟩, rfl, rfl, rfl⟩
          case measure => rw [HLn]; simp [lenOf]; omega

end Go.Proofs.Ytachkoledebanaa
