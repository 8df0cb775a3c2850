/-
  Answer: the document's, by what its ReadRow tells.
-/
import Derived.Test.YtachkoledebanabGreatDoorAnsD
import Derived.Deep.DeepCutAuto
import Derived.BigQuiet
namespace Go.Proofs.YtachkoledebanabGreatDoor
open Go.RowKit

/-- what ReadRow hands back -/
def RetTold (xs : List UInt8) (e : Ending) (w' : World) : Prop :=
  ∃ c l gs a1 a2 a3 a4 c1 c2 c3 c4 A C, IsTold xs c l gs ∧ e = .returned (.agg #[.int .i64 c, .int .i64 l, .slice a1 gs.length c1, .slice a2 gs.length c2, .slice a3 gs.length c3, .slice a4 gs.length c4]) ∧ RowAt w' a1 a2 a3 a4 A C (rowsOf gs)

/-- the aspects' words, in a block -/
def nmCells : Array Value := #[.string ⟨#[100, 97, 114, 107]⟩, .string ⟨#[115, 116, 111, 112]⟩, .string ⟨#[115, 108, 111, 119]⟩, .string ⟨#[110, 101, 97, 114]⟩, .string ⟨#[102, 114, 101, 101]⟩]
theorem nm_cell {w : World} {B : Nat} (h : Blk w B nmCells 9) {a : Int} (h0 : -1 ≤ a) (h1 : a ≤ 3) : w.cell? ⟨B, (a + 1).toNat, none⟩ = some (.string (bs (nmT a))) := by
  rw [h.cell]
  have : a = -1 ∨ a = 0 ∨ a = 1 ∨ a = 2 ∨ a = 3 := by omega
  rcases this with rfl | rfl | rfl | rfl | rfl <;> rfl

set_option maxHeartbeats 4000000 in
theorem specAnswer_of (xs : List UInt8) (w : World) (hread : ∀ W, Calls Tryz.prog 5 #[.string (bs xs)] W fun e w' => RetTold xs e w' ∧ Below W.heap.size W w') :
    Calls Tryz.prog 10 #[.string (bs xs)] w fun e w' => (∃ ys, IsAnswer xs ys ∧ e = .returned (.string (bs ys))) ∧ Below w.heap.size w w' := by
  go_enter Tryz.func10, Tryz.ntmps10
  go_wp2_with fail
  refine (hread w).mono ?_
  rintro e w1 ⟨⟨c, l, gs, a1, a2, a3, a4, c1, c2, c3, c4, A, C, ht, rfl, hrow⟩, hb1⟩
  clear hread
  have hbd := ht.bd
  have HT : Hid (IsTold xs c l gs) := ht
  have bel : Below w.heap.size w (w1.alloc (.cells #[.int .i64 c, .int .i64 l, .slice a1 gs.length c1, .slice a2 gs.length c2, .slice a3 gs.length c3, .slice a4 gs.length c4] 28)) := hb1.alloc hb1.size _
  have hal : Below w1.heap.size w1 (w1.alloc (.cells #[.int .i64 c, .int .i64 l, .slice a1 gs.length c1, .slice a2 gs.length c2, .slice a3 gs.length c3, .slice a4 gs.length c4] 28)) := (Below.refl _ _).alloc (Nat.le_refl _) _
  have hbk := Blk.new w1 #[.int .i64 c, .int .i64 l, .slice a1 gs.length c1, .slice a2 gs.length c2, .slice a3 gs.length c3, .slice a4 gs.length c4] 28
  have HR : Hid (RowAt (w1.alloc (.cells #[.int .i64 c, .int .i64 l, .slice a1 gs.length c1, .slice a2 gs.length c2, .slice a3 gs.length c3, .slice a4 gs.length c4] 28)) a1 a2 a3 a4 A C (rowsOf gs)) := hrow.keep hal
  clear hrow ht hal hb1
  by_cases hc : c = 0
  case neg =>
    have z : (c != 0) = true := by rw [bne_iff_ne]; exact hc
    have HA : Hid (IsAnswer xs (wrongTxt c l)) := ⟨c, l, gs, HT.out, Or.inl ⟨hc, rfl⟩⟩
    clear hc HR
    obtain ⟨cn, rfl⟩ : ∃ cn : Nat, c = cn := ⟨c.toNat, by omega⟩
    obtain ⟨ln, rfl⟩ : ∃ ln : Nat, l = ln := ⟨l.toNat, by omega⟩
    have hcl := dec_len9 (n := cn) (by omega)
    have hll := dec_len9 (n := ln) (by omega)
    have HE : Hid ([119, 114, 111, 110, 103, 32] ++ dec cn ++ [32] ++ dec ln ++ [10] = wrongTxt cn ln) := by show _ = _; unfold wrongTxt; rw [Int.toNat_natCast, Int.toNat_natCast]
    have h1 : ∀ V, (Op.stringOp .add ⟨#[119, 114, 111, 110, 103, 32]⟩ (bs (dec cn))).run Tryz.prog V = .ok (.string (bs ([119, 114, 111, 110, 103, 32] ++ dec cn))) V := fun V => add_bs [119, 114, 111, 110, 103, 32] _ (by simp; omega) V
    have e1 : ([119, 114, 111, 110, 103, 32] ++ dec cn).length ≤ 20 := by simp; omega
    generalize [119, 114, 111, 110, 103, 32] ++ dec cn = s1 at *
    have h2 : ∀ V, (Op.stringOp .add (bs s1) ⟨#[32]⟩).run Tryz.prog V = .ok (.string (bs (s1 ++ [32]))) V := fun V => add_bs s1 [32] (by simp; omega) V
    have e2 : (s1 ++ [32]).length ≤ 21 := by simp; omega
    generalize s1 ++ [32] = s2 at *
    have h3 : ∀ V, (Op.stringOp .add (bs s2) (bs (dec ln))).run Tryz.prog V = .ok (.string (bs (s2 ++ dec ln))) V := fun V => add_bs s2 _ (by omega) V
    have e3 : (s2 ++ dec ln).length ≤ 30 := by simp; omega
    generalize s2 ++ dec ln = s3 at *
    have h4 : ∀ V, (Op.stringOp .add (bs s3) ⟨#[10]⟩).run Tryz.prog V = .ok (.string (bs (s3 ++ [10]))) V := fun V => add_bs s3 [10] (by simp; omega) V
    have x0 := hbk.cell 0
    have x1 := hbk.cell 1
    simp at x0 x1
    go_wp2_with fail
    generalize (w1.alloc (.cells #[.int .i64 (cn : Int), .int .i64 (ln : Int), .slice a1 gs.length c1, .slice a2 gs.length c2, .slice a3 gs.length c3, .slice a4 gs.length c4] 28)) = W at *
    have x0 := hbk.cell 0
    have x1 := hbk.cell 1
    simp at x0 x1
    go_region_with (first
      | (go_at_call_of 20 (Value.int .i64 (cn : Int)); refine (decimal_any cn _ (by omega)).mono ?_; rintro e w2 ⟨rfl, hb2⟩; have hbk2 := hbk.drew.keep hb2; have y1 := hbk2.cell 1; simp at y1)
      | (go_at_call_of 20 (Value.int .i64 (ln : Int)); refine (decimal_any ln _ (by omega)).mono ?_; rintro e w3 ⟨rfl, hb3⟩))
    all_goals
      go_wp2
      go_ret
      exact ⟨⟨_, HA.out, by rw [← HE.out]; rfl⟩, chain (chain bel.drew hb2) hb3⟩
  have z : (c != 0) = false := by rw [bne_eq_false_iff_eq]; exact hc
  subst hc
  have HRT : Hid (Right (rowsOf gs)) := HT.out.right
  have x2 := hbk.cell 2
  have x3 := hbk.cell 3
  have x4 := hbk.cell 4
  have x5 := hbk.cell 5
  simp at x2 x3 x4 x5
  go_wp2_with fail
  generalize (w1.alloc (.cells #[.int .i64 0, .int .i64 l, .slice a1 gs.length c1, .slice a2 gs.length c2, .slice a3 gs.length c3, .slice a4 gs.length c4] 28)) = W at *
  refine (l2both_any a1 a2 a3 a4 c1 c2 c3 c4 A C (rowsOf gs) W HR.out HRT.out).mono ?_
  rintro e w2 ⟨⟨wn, sh, hl, ⟨ao, ca, bo, cb, rfl, hao, hbo⟩⟩, hb2⟩
  have HL : Hid (Least (rowsOf gs) (rowsOf gs).nN wn sh) := hl
  have hn60 : (rowsOf gs).nN ≤ 60 := HRT.out.s.nN
  have HI : Hid (∀ ys, ys = ansTxt wn sh (rowsOf gs).nN → IsAnswer xs ys) := fun ys e => ⟨0, l, gs, HT.out, Or.inr ⟨rfl, wn, sh, HL.out, e⟩⟩
  have HBD : Hid (∀ i, i < (rowsOf gs).nN → 0 ≤ wn i ∧ wn i ≤ 3 ∧ -1 ≤ sh i ∧ sh i ≤ 3) := HL.out.bd HRT.out.inside
  have HA : Hid (SlAt (w2.alloc (.cells nmCells 9)) ao (rowsOf gs).nN (fun k => .int .i64 (wn k))) := hao.sl.keep ((Below.refl _ _).alloc (Nat.le_refl _) _)
  have HO : Hid (SlAt (w2.alloc (.cells nmCells 9)) bo (rowsOf gs).nN (fun k => .int .i64 (sh k))) := hbo.sl.keep ((Below.refl _ _).alloc (Nat.le_refl _) _)
  have HNM : Hid (Blk (w2.alloc (.cells nmCells 9)) w2.heap.size nmCells 9) := Blk.new w2 nmCells 9
  have bel3 : Below w.heap.size w (w2.alloc (.cells nmCells 9)) := (chain bel hb2).alloc (chain bel hb2).size _
  generalize (rowsOf gs).nN = n at *
  clear hl hao hbo hb2 bel HR x2 x3 x4 x5 hbk z HT hbd
  unfold nmCells at HA HO HNM bel3
  go_wp2
  generalize (w2.alloc (.cells #[.string ⟨#[100, 97, 114, 107]⟩, .string ⟨#[115, 116, 111, 112]⟩, .string ⟨#[115, 108, 111, 119]⟩, .string ⟨#[110, 101, 97, 114]⟩, .string ⟨#[102, 114, 101, 101]⟩] 9)) = W3 at *
  go_loopw [7, 33] (fun o t wr => ∃ q : Nat, q ≤ n ∧ t = .int .i64 q ∧ o = .string (bs (ansTxt wn sh q)) ∧ Below W3.heap.size W3 wr) (fun _ t _ => n - (intOf t).toNat)
  case atStart => exact ⟨0, by omega, rfl, rfl, Below.refl _ _⟩
  case round =>
    obtain ⟨q, hq, rfl, rfl, hB⟩ := hrel
    by_cases hlt : q < n
    · have hbq := HBD.out q hlt
      have hlen := ansTxt_len wn sh q (by omega)
      have hdl := dec_len9 (n := q) (by omega)
      have n1 := nmT_len (sh q)
      have n2 := nmT_len (wn q)
      have HS : Hid (ansTxt wn sh (q + 1) = ansTxt wn sh q ++ (((dec q ++ [32]) ++ nmT (sh q)) ++ ((if wn q = sh q then [] else [32, 102, 111, 114, 32] ++ nmT (wn q)) ++ [10]))) := rfl
      obtain ⟨bs', os, rfl, hcs⟩ := (HO.out.keep hB) q hlt
      obtain ⟨bw', ow, rfl, hcw⟩ := (HA.out.keep hB) q hlt
      replace hcs : wr.cell? ⟨bs', os + q, none⟩ = some (.int .i64 (sh q)) := hcs
      replace hcw : wr.cell? ⟨bw', ow + q, none⟩ = some (.int .i64 (wn q)) := hcw
      have hnm1 := nm_cell (HNM.out.keep hB) hbq.2.2.1 hbq.2.2.2
      have hnm2 := nm_cell (HNM.out.keep hB) (show -1 ≤ wn q by omega) hbq.2.1
      have hwr1 : IntKind.i64.wrap (sh q + 1) = sh q + 1 := by rw [IntKind.wrap_i64]; omega
      generalize ansTxt wn sh q = s0 at *
      generalize nmT (sh q) = m1 at *
      generalize nmT (wn q) = m2 at *
      obtain ⟨t1, ht1⟩ : ∃ t1, t1 = dec q ++ [32] := ⟨_, rfl⟩
      obtain ⟨t2, ht2⟩ : ∃ t2, t2 = t1 ++ m1 := ⟨_, rfl⟩
      obtain ⟨t3, ht3⟩ : ∃ t3, t3 = s0 ++ t2 := ⟨_, rfl⟩
      have h1 : ∀ V, (Op.stringOp .add (bs (dec q)) ⟨#[32]⟩).run Tryz.prog V = .ok (.string (bs t1)) V := fun V => by rw [ht1]; exact add_bs _ [32] (by simp; omega) V
      have h2 : ∀ V, (Op.stringOp .add (bs t1) (bs m1)).run Tryz.prog V = .ok (.string (bs t2)) V := fun V => by rw [ht2]; exact add_bs _ _ (by rw [ht1]; simp; omega) V
      have l2 : t2.length ≤ 14 := by rw [ht2, ht1]; simp; omega
      have h3 : ∀ V, (Op.stringOp .add (bs s0) (bs t2)).run Tryz.prog V = .ok (.string (bs t3)) V := fun V => by rw [ht3]; exact add_bs _ _ (by omega) V
      have l3 : t3.length ≤ 30 * q + 14 := by rw [ht3, List.length_append]; omega
      have HT3 : Hid (t3 = s0 ++ ((dec q ++ [32]) ++ m1)) := by show _ = _; rw [ht3, ht2, ht1]
      clear ht1 ht2 ht3
      have hp1 : (0 : Int) ≤ sh q + 1 := by omega
      have hp2 : sh q + 1 < 5 := by omega
      have hq9 : q < 1000000000 := by omega
      have HCD : Hid (wr.drew.cell? ⟨bs', os + q, none⟩ = some (.int .i64 (sh q)) ∧ wr.drew.cell? ⟨bw', ow + q, none⟩ = some (.int .i64 (wn q)) ∧ wr.drew.cell? ⟨w2.heap.size, (sh q + 1).toNat, none⟩ = some (.string (bs m1)) ∧ wr.drew.cell? ⟨w2.heap.size, (wn q + 1).toNat, none⟩ = some (.string (bs m2))) := ⟨hcs, hcw, hnm1, hnm2⟩
      clear hn60
      go_wp2_with fail
      go_region_with (go_at_call 20; refine (decimal_any q _ hq9).mono ?_; rintro e w5 ⟨rfl, hb5⟩; have hc5 := (hb5.cell (p := ⟨bs', os + q, none⟩) (block_lt_of_cell HCD.out.1)).trans HCD.out.1; have hm5 := (hb5.cell (p := ⟨w2.heap.size, (sh q + 1).toNat, none⟩) (block_lt_of_cell HCD.out.2.2.1)).trans HCD.out.2.2.1)
      all_goals
        have B5 : Below W3.heap.size W3 w5 := chain hB.drew hb5
        have hw5 := (hb5.cell (p := ⟨bw', ow + q, none⟩) (block_lt_of_cell HCD.out.2.1)).trans HCD.out.2.1
        have hm6 := (hb5.cell (p := ⟨w2.heap.size, (wn q + 1).toNat, none⟩) (block_lt_of_cell HCD.out.2.2.2)).trans HCD.out.2.2.2
        by_cases heq : wn q = sh q
        · have z9 : (wn q != sh q) = false := by rw [bne_eq_false_iff_eq]; exact heq
          have HE : Hid (ansTxt wn sh (q + 1) = t3 ++ [10]) := by show _ = _; rw [HS.out, if_pos heq, HT3.out]; simp [List.append_assoc]
          have h4 : ∀ V, (Op.stringOp .add (bs t3) ⟨#[10]⟩).run Tryz.prog V = .ok (.string (bs (t3 ++ [10]))) V := fun V => add_bs t3 [10] (by simp; omega) V
          clear heq
          go_wp2_with fail
          go_region
          all_goals
            go_wp2
            go_roundw
            case rel => exact ⟨q + 1, by omega, by go_num, by rw [HE.out], B5.drew⟩
            case measure => simp [intOf]; omega
        · have z9 : (wn q != sh q) = true := by rw [bne_iff_ne]; exact heq
          have hwr2 : IntKind.i64.wrap (wn q + 1) = wn q + 1 := by rw [IntKind.wrap_i64]; omega
          obtain ⟨u1, hu1⟩ : ∃ u1, u1 = [32, 102, 111, 114, 32] ++ m2 := ⟨_, rfl⟩
          obtain ⟨u2, hu2⟩ : ∃ u2, u2 = t3 ++ u1 := ⟨_, rfl⟩
          have h4 : ∀ V, (Op.stringOp .add ⟨#[32, 102, 111, 114, 32]⟩ (bs m2)).run Tryz.prog V = .ok (.string (bs u1)) V := fun V => by rw [hu1]; exact add_bs [32, 102, 111, 114, 32] m2 (by simp; omega) V
          have l4 : u1.length ≤ 9 := by rw [hu1]; simp; omega
          have h5 : ∀ V, (Op.stringOp .add (bs t3) (bs u1)).run Tryz.prog V = .ok (.string (bs u2)) V := fun V => by rw [hu2]; exact add_bs _ _ (by omega) V
          have l5 : u2.length ≤ 30 * q + 23 := by rw [hu2, List.length_append]; omega
          have h6 : ∀ V, (Op.stringOp .add (bs u2) ⟨#[10]⟩).run Tryz.prog V = .ok (.string (bs (u2 ++ [10]))) V := fun V => add_bs u2 [10] (by simp; omega) V
          have HE : Hid (ansTxt wn sh (q + 1) = u2 ++ [10]) := by show _ = _; rw [HS.out, if_neg heq, hu2, hu1, HT3.out]; simp [List.append_assoc]
          have hp3 : (0 : Int) ≤ wn q + 1 := by omega
          have hp4 : wn q + 1 < 5 := by omega
          clear heq hu1 hu2
          go_wp2_with fail
          go_region
          all_goals
            go_wp2
            go_roundw
            case rel => exact ⟨q + 1, by omega, by go_num, by rw [HE.out], B5.drew⟩
            case measure => simp [intOf]; omega
    · obtain rfl : q = n := by omega
      have HE : Hid (IsAnswer xs (ansTxt wn sh q)) := HI.out _ rfl
      go_wp2
      go_ret
      exact ⟨⟨_, HE.out, rfl⟩, chain bel3 hB⟩

end Go.Proofs.YtachkoledebanabGreatDoor
