/-
  Wants: the program's.
-/
import Derived.Test.YtachkoledebanaaGreatDoorSho2
import Derived.Test.YtachkoledebanaaGreatDoorWS
namespace Go.Proofs.YtachkoledebanaaGreatDoor
open Go.RowKit Go.WideMaps Go.Maps

set_option maxHeartbeats 2000000 in
theorem implWants_any (a1 a2 a3 a4 : Option Addr) (c1 c2 c3 c4 : Nat) (A : Nat → Option Addr) (C : Nat → Nat) (d : RD) (w : World) (hs : Small d) (h : RowAt w a1 a2 a3 a4 A C d) :
    Calls Tryz.prog 24 #[.agg #[.slice a1 d.nN c1, .slice a2 d.nF c2, .slice a3 d.nO c3, .slice a4 d.nW c4]] w fun e w' =>
      (∃ xs, IsWants d xs ∧ RetInts e w.heap.size w' xs) ∧ Below w.heap.size w w' := by
  have bel : Below w.heap.size w (w.alloc (.cells #[.slice a1 d.nN c1, .slice a2 d.nF c2, .slice a3 d.nO c3, .slice a4 d.nW c4] 27)) := (Below.refl _ _).alloc (Nat.le_refl _) _
  have hk := h.keep bel
  have hbk := Blk.new w #[.slice a1 d.nN c1, .slice a2 d.nF c2, .slice a3 d.nO c3, .slice a4 d.nW c4] 27
  clear h
  go_enter Tryz.func24, Tryz.ntmps24
  go_wp2_with fail
  generalize (w.alloc (.cells #[.slice a1 d.nN c1, .slice a2 d.nF c2, .slice a3 d.nO c3, .slice a4 d.nW c4] 27)) = W at *
  refine (implRowOk_any a1 a2 a3 a4 c1 c2 c3 c4 A C d W hs hk).mono ?_
  rintro e w1 ⟨⟨r, rfl, hr⟩, hb1⟩
  have bel1 : Below w.heap.size w w1 := chain bel hb1
  by_cases hr0 : r = 0
  case neg =>
    have z : (r != 0) = true := by rw [bne_iff_ne]; exact hr0
    have HB : Hid (IsWants d []) := Or.inr ⟨fun u => hr0 (hr.zero u), rfl⟩
    clear hk hbk hb1 hr hs
    go_wp2
    go_ret
    exact ⟨⟨[], HB.out, .nil rfl⟩, bel1⟩
  subst hr0
  have hR : Hid (Right d) := hr.rt
  have h60 := hR.out.s.nN
  have z : ((0 : Int) != 0) = false := by simp
  have hk1 := hk.keep hb1
  have hbr := hbk.keep hb1
  have b0 := hbr.cell 0
  have b1 := hbr.cell 1
  have b2 := hbr.cell 2
  have b3 := hbr.cell 3
  simp at b0 b1 b2 b3
  clear hbk hk hb1 bel hr hbr hs
  go_wp2_with fail
  refine (boardOf_any a1 a2 a3 a4 c1 c2 c3 c4 A C d w1 hk1 hR.out).mono ?_
  rintro e w2 ⟨X, B, rfl, hA⟩
  have HA : Hid (BoardAt w1 X B d w2) := hA
  clear hk1 b0 b1 b2 b3 hA
  go_wp2_with fail
  refine (settle_at hR.out HA.out).mono ?_
  rintro e w3 ⟨rfl, sh, hl, hbd, hB⟩
  have bel3 : Below w.heap.size w w3 := chain bel1 (Settled.bel HA.out hB)
  have HI : Hid (IsWants d (lst (wish d sh) d.nN)) := Or.inl ⟨hR.out, _, sh, hl, rfl⟩
  have HB : Hid (Bd w2 X B d sh [] w3) := hB
  have HD : Hid (∀ i, i < d.nN → -1 ≤ sh i ∧ sh i ≤ 3) := hbd
  have hmk := run_make_row' (P := Tryz.prog) 23 3 (.int .i64 0) 8 Tryz.uInts Tryz.iInt rfl .i64 .i64 d.nN (by omega) (by omega)
  have HM : Hid ((w3.alloc (.cells (madeCells #[.int .i64 0] d.nN) 3)).rowIs w3.heap.size 3 d.nN (fun _ => .int .i64 0)) := World.rowIs_made w3 (.int .i64 0) d.nN 3
  obtain ⟨qv, hX, -⟩ := hB.bk
  have x4 := hX.cell 4
  unfold bcells at x4
  simp at x4
  have bA : Below w3.heap.size w3 (w3.alloc (.cells (madeCells #[.int .i64 0] d.nN) 3)) := (Below.refl _ _).alloc (Nat.le_refl _) _
  clear hB hl hbd hX bel1
  go_wp2
  generalize (w3.alloc (.cells (madeCells #[.int .i64 0] d.nN) 3)) = W4 at *
  clear hmk x4
  go_loopw [21] (fun t wr => ∃ k : Nat, k ≤ d.nN ∧ t = .int .i64 k ∧ wr.rowIs w3.heap.size 3 d.nN (fun j => .int .i64 (if j < k then wish d sh j else 0)) ∧ Below w3.heap.size w3 wr) (fun t _ => d.nN - (intOf t).toNat)
  case atStart => exact ⟨0, Nat.zero_le _, rfl, HM.out.congr (fun i _ => by simp), bA⟩
  case round =>
    obtain ⟨k, hk, rfl, hrow, hbr⟩ := hrel
    by_cases hlt : k < d.nN
    · have hw := wants_any w2 X B d sh [] wr k hlt h60 hR.out.ways HD.out _ HA.out.bk HA.out.stat (HB.out.keep hbr)
      have hc := hrow.cell hlt
      have hf := hrow.frozen k
      have HR : Hid ((wr.setCell ⟨w3.heap.size, k, none⟩ (.int .i64 (wish d sh k))).rowIs w3.heap.size 3 d.nN (fun j => .int .i64 (if j < k + 1 then wish d sh j else 0))) := (hrow.set k (.int .i64 (wish d sh k))).congr fun j _ => by
        by_cases e : j = k
        · subst e; simp
        · by_cases g : j < k
          · rw [if_neg e, if_pos g, if_pos (by omega)]
          · rw [if_neg e, if_neg g, if_neg (by omega)]
      have HBr : Hid (Below w3.heap.size w3 (wr.setCell ⟨w3.heap.size, k, none⟩ (.int .i64 (wish d sh k)))) := hbr.setCell (Nat.le_refl _) _
      clear hrow hbr bA HM
      go_wp2_with fail
      refine hw.mono ?_
      rintro e w5 ⟨rfl, rfl⟩
      clear hw
      go_wp2
      go_roundw
      case rel => exact ⟨k + 1, by omega, by go_num, HR.out, HBr.out⟩
      case measure => simp [intOf]; omega
    · obtain rfl : k = d.nN := by omega
      have HO : Hid (RetInts (.returned (.slice (some ⟨w3.heap.size, 0, none⟩) d.nN d.nN)) w.heap.size wr (lst (wish d sh) d.nN)) := RetInts.lst rfl (OwnS.ofRow (hrow.congr (fun j hj => by rw [if_pos hj])) bel3.size hrow.lt)
      have bel4 : Below w.heap.size w wr := chain bel3 hbr
      clear hrow hbr bA HM HA HB
      go_wp2
      go_ret
      exact ⟨⟨_, HI.out, HO.out⟩, bel4⟩

end Go.Proofs.YtachkoledebanaaGreatDoor
