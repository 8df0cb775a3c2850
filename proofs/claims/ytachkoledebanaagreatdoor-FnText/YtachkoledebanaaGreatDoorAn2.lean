/-
  Answer: the program's.
-/
import Derived.Test.YtachkoledebanaaGreatDoorRd2
import Derived.Test.YtachkoledebanaaGreatDoorAnsD
import Derived.Test.YtachkoledebanaaGreatDoorSho2
import Derived.Test.YtachkoledebanaaGreatDoorWan2
import Derived.Test.YtachkoledebanaaGreatDoorBl2
namespace Go.Proofs.YtachkoledebanaaGreatDoor
open Go.RowKit Go.Deep

/-- the aspects' words lie in their table -/
def Names (w : World) : Prop := ∀ i, i < 5 → w.cell? ⟨3, i, none⟩ = some (.string (bs (nmT ((i : Int) - 1))))
theorem Names.keep {w w' : World} (h : Names w) (hb : Below w.heap.size w w') : Names w' := fun i hi => cell_keep (h i hi) hb
theorem aspectWord_any (a : Int) (w : World) (h0 : -1 ≤ a) (h1 : a ≤ 3) (h : Names w) :
    Calls Tryz.prog 26 #[.int .i64 a] w fun e w' => e = .returned (.string (bs (nmT a))) ∧ w' = w := by
  have n0 := h 0 (by omega)
  have n1 := h 1 (by omega)
  have n2 := h 2 (by omega)
  have n3 := h 3 (by omega)
  have n4 := h 4 (by omega)
  clear h
  go_enter Tryz.func26, Tryz.ntmps26
  obtain rfl | rfl | rfl | rfl | rfl : a = -1 ∨ a = 0 ∨ a = 1 ∨ a = 2 ∨ a = 3 := by omega
  all_goals
    go_wp2
    go_ret
    exact ⟨rfl, rfl⟩

set_option maxHeartbeats 8000000 in
theorem implAnswer_any (xs : List UInt8) (w : World) (L : Laid w) (hn : Names w) (hx : xs.length ≤ 1048576) :
    Calls Tryz.prog 9 #[.string (bs xs)] w fun e w' => (∃ ys, IsAnswer xs ys ∧ e = .returned (.string (bs ys))) ∧ Below w.heap.size w w' := by
  have hread := implReadRow_any xs w L hx
  have HL : Hid (Laid w) := L
  have HNM : Hid (Names w) := hn
  clear L hn
  go_enter Tryz.func9, Tryz.ntmps9
  go_wp2_with fail
  refine hread.mono ?_
  rintro e w1 ⟨⟨c, l, gs, bI, cI, a1, a2, a3, a4, c1, c2, c3, c4, ht, rfl, how⟩, hb1⟩
  clear hread
  have hbd := ht.bd
  have HT : Hid (IsTold xs c l gs) := ht
  have bel : Below w.heap.size w (w1.alloc (.cells #[.int .i64 c, .int .i64 l, .slice a1 gs.length c1, .slice a2 gs.length c2, .slice a3 gs.length c3, .slice a4 gs.length c4] 31)) := hb1.alloc hb1.size _
  have hal : Below w1.heap.size w1 (w1.alloc (.cells #[.int .i64 c, .int .i64 l, .slice a1 gs.length c1, .slice a2 gs.length c2, .slice a3 gs.length c3, .slice a4 gs.length c4] 31)) := (Below.refl _ _).alloc (Nat.le_refl _) _
  have hbk := Blk.new w1 #[.int .i64 c, .int .i64 l, .slice a1 gs.length c1, .slice a2 gs.length c2, .slice a3 gs.length c3, .slice a4 gs.length c4] 31
  have HR : Hid (RowAt (w1.alloc (.cells #[.int .i64 c, .int .i64 l, .slice a1 gs.length c1, .slice a2 gs.length c2, .slice a3 gs.length c3, .slice a4 gs.length c4] 31)) a1 a2 a3 a4 (fun j => some ⟨bI j, 0, none⟩) cI (rowsOf gs)) := how.at.keep hal
  have HZ : Hid (w.heap.size ≤ w1.heap.size) := hb1.size
  clear how ht hal hb1
  by_cases hc : c = 0
  case neg =>
    have z : (c != 0) = true := by rw [bne_iff_ne]; exact hc
    have HA : Hid (IsAnswer xs (wrongTxt c l)) := ⟨c, l, gs, HT.out, Or.inl ⟨hc, rfl⟩⟩
    clear hc HR
    obtain ⟨cn, rfl⟩ : ∃ cn : Nat, c = cn := ⟨c.toNat, by omega⟩
    obtain ⟨ln, rfl⟩ : ∃ ln : Nat, l = ln := ⟨l.toNat, by omega⟩
    have hcl := dec_len9 (n := cn) (by omega)
    have hll := dec_len9 (n := ln) (by omega)
    have HE : Hid ([119, 114, 111, 110, 103, 32] ++ dec cn ++ [32] ++ dec ln ++ [10] = wrongTxt cn ln) := by show _ = _; unfold wrongTxt; rw [Int.toNat_natCast, Int.toNat_natCast]
    have h1 : ∀ V, (Op.stringOp .add ⟨#[119, 114, 111, 110, 103, 32]⟩ (bs (dec cn))).run Tryz.prog V = .ok (.string (bs ([119, 114, 111, 110, 103, 32] ++ dec cn))) V := fun V => add_bs [119, 114, 111, 110, 103, 32] _ (by simp; omega) V
    have e1 : ([119, 114, 111, 110, 103, 32] ++ dec cn).length ≤ 20 := by simp; omega
    generalize [119, 114, 111, 110, 103, 32] ++ dec cn = s1 at *
    have h2 : ∀ V, (Op.stringOp .add (bs s1) ⟨#[32]⟩).run Tryz.prog V = .ok (.string (bs (s1 ++ [32]))) V := fun V => add_bs s1 [32] (by simp; omega) V
    have e2 : (s1 ++ [32]).length ≤ 21 := by simp; omega
    generalize s1 ++ [32] = s2 at *
    have h3 : ∀ V, (Op.stringOp .add (bs s2) (bs (dec ln))).run Tryz.prog V = .ok (.string (bs (s2 ++ dec ln))) V := fun V => add_bs s2 _ (by omega) V
    have e3 : (s2 ++ dec ln).length ≤ 30 := by simp; omega
    generalize s2 ++ dec ln = s3 at *
    have h4 : ∀ V, (Op.stringOp .add (bs s3) ⟨#[10]⟩).run Tryz.prog V = .ok (.string (bs (s3 ++ [10]))) V := fun V => add_bs s3 [10] (by simp; omega) V
    have x0 := hbk.cell 0
    have x1 := hbk.cell 1
    simp at x0 x1
    have hc9 : cn < 1000000000 := by omega
    have hl9 : ln < 1000000000 := by omega
    go_wp2_with fail
    generalize (w1.alloc (.cells #[.int .i64 (cn : Int), .int .i64 (ln : Int), .slice a1 gs.length c1, .slice a2 gs.length c2, .slice a3 gs.length c3, .slice a4 gs.length c4] 31)) = W at *
    have x0 := hbk.cell 0
    have x1 := hbk.cell 1
    simp at x0 x1
    have htW := (HL.out.keep bel).tab
    go_region_with (first
      | (go_at_call_of 16 (Value.int .i64 (cn : Int)); refine (itoa_any cn _ hc9 htW.drew).mono ?_; rintro e w2 ⟨rfl, hb2⟩; have hbk2 := hbk.drew.keep hb2; have y1 := hbk2.cell 1; simp at y1; have htW2 := htW.drew.keep hb2)
      | (go_at_call_of 16 (Value.int .i64 (ln : Int)); refine (itoa_any ln _ hl9 htW2).mono ?_; rintro e w3 ⟨rfl, hb3⟩))
    all_goals
      go_wp2
      go_ret
      exact ⟨⟨_, HA.out, by rw [← HE.out]; rfl⟩, chain (chain bel.drew hb2) hb3⟩
  have z : (c != 0) = false := by rw [bne_eq_false_iff_eq]; exact hc
  subst hc
  have HRT : Hid (Right (rowsOf gs)) := HT.out.right
  have x2 := hbk.cell 2
  have x3 := hbk.cell 3
  have x4 := hbk.cell 4
  have x5 := hbk.cell 5
  simp at x2 x3 x4 x5
  have hW2 : Below w.heap.size w ((w1.alloc (.cells #[.int .i64 0, .int .i64 l, .slice a1 gs.length c1, .slice a2 gs.length c2, .slice a3 gs.length c3, .slice a4 gs.length c4] 31)).alloc (.cells #[.pointer none, .slice none 0 0] 44)) := bel.alloc bel.size _
  have HK2 : Hid (Blk ((w1.alloc (.cells #[.int .i64 0, .int .i64 l, .slice a1 gs.length c1, .slice a2 gs.length c2, .slice a3 gs.length c3, .slice a4 gs.length c4] 31)).alloc (.cells #[.pointer none, .slice none 0 0] 44)) w1.heap.size #[.int .i64 0, .int .i64 l, .slice a1 gs.length c1, .slice a2 gs.length c2, .slice a3 gs.length c3, .slice a4 gs.length c4] 31) := hbk.alloc _
  have HBB : Hid (Blk ((w1.alloc (.cells #[.int .i64 0, .int .i64 l, .slice a1 gs.length c1, .slice a2 gs.length c2, .slice a3 gs.length c3, .slice a4 gs.length c4] 31)).alloc (.cells #[.pointer none, .slice none 0 0] 44)) (w1.heap.size + 1) #[.pointer none, .slice none 0 0] 44) := by
    have := Blk.new (w1.alloc (.cells #[.int .i64 0, .int .i64 l, .slice a1 gs.length c1, .slice a2 gs.length c2, .slice a3 gs.length c3, .slice a4 gs.length c4] 31)) #[.pointer none, .slice none 0 0] 44
    rw [World.size_alloc] at this
    exact this
  have HR2 : Hid (RowAt ((w1.alloc (.cells #[.int .i64 0, .int .i64 l, .slice a1 gs.length c1, .slice a2 gs.length c2, .slice a3 gs.length c3, .slice a4 gs.length c4] 31)).alloc (.cells #[.pointer none, .slice none 0 0] 44)) a1 a2 a3 a4 (fun j => some ⟨bI j, 0, none⟩) cI (rowsOf gs)) := HR.out.keep ((Below.refl _ _).alloc (Nat.le_refl _) _)
  have y2 := HK2.out.cell 2
  have y3 := HK2.out.cell 3
  have y4 := HK2.out.cell 4
  have y5 := HK2.out.cell 5
  simp at y2 y3 y4 y5
  have HSM : Hid (Small (rowsOf gs)) := by
    have h60 : (rowsOf gs).nN ≤ 60 := HRT.out.s.nN
    exact rows_small (by show gs.length ≤ _; have : gs.length ≤ 60 := h60; omega)
  clear HR hbk bel
  go_wp2_with fail
  generalize ((w1.alloc (.cells #[.int .i64 0, .int .i64 l, .slice a1 gs.length c1, .slice a2 gs.length c2, .slice a3 gs.length c3, .slice a4 gs.length c4] 31)).alloc (.cells #[.pointer none, .slice none 0 0] 44)) = W2 at *
  refine (implWants_any a1 a2 a3 a4 c1 c2 c3 c4 _ cI (rowsOf gs) W2 HSM.out HR2.out).mono ?_
  rintro e w3 ⟨⟨xw, hxw, ⟨ao, ca, rfl, how⟩⟩, hb3⟩
  have HK3 : Hid (Blk w3 w1.heap.size #[.int .i64 0, .int .i64 l, .slice a1 gs.length c1, .slice a2 gs.length c2, .slice a3 gs.length c3, .slice a4 gs.length c4] 31) := HK2.out.keep hb3
  have z2 := HK3.out.cell 2
  have z3 := HK3.out.cell 3
  have z4 := HK3.out.cell 4
  have z5 := HK3.out.cell 5
  simp at z2 z3 z4 z5
  have hsh := implShows_any a1 a2 a3 a4 c1 c2 c3 c4 _ cI (rowsOf gs) w3 HSM.out (HR2.out.keep hb3)
  clear x2 x3 x4 x5 y2 y3 y4 y5
  go_wp2_with fail
  refine hsh.mono ?_
  rintro e w4 ⟨⟨xs', hxs, ⟨bo, cb, rfl, hos⟩⟩, hb4⟩
  obtain ⟨wn, sh, hle, hwe⟩ : ∃ wn sh, Least (rowsOf gs) (rowsOf gs).nN wn sh ∧ xw = lst wn (rowsOf gs).nN := by
    rcases hxw with ⟨_, h⟩ | ⟨h, _⟩
    · exact h
    · exact absurd HRT.out h
  have hse : xs' = lst sh (rowsOf gs).nN := by
    rcases hxs with ⟨_, wn', sh', hl', rfl⟩ | ⟨h, _⟩
    · exact lst_congr fun i hi => (hl'.one HRT.out.inside hle).2 i hi
    · exact absurd HRT.out h
  have hb42 : Below W2.heap.size W2 w4 := chain hb3 hb4
  have HBB4 : Hid (Blk w4 (w1.heap.size + 1) #[.pointer none, .slice none 0 0] 44) := HBB.out.keep hb42
  have HB4 : Hid (Below w.heap.size w w4) := chain hW2 hb42
  have hn60 : (rowsOf gs).nN ≤ 60 := HRT.out.s.nN
  have HI : Hid (∀ ys, ys = ansTxt wn sh (rowsOf gs).nN → IsAnswer xs ys) := fun ys e => ⟨0, l, gs, HT.out, Or.inr ⟨rfl, wn, sh, hle, e⟩⟩
  have HBD : Hid (∀ i, i < (rowsOf gs).nN → 0 ≤ wn i ∧ wn i ≤ 3 ∧ -1 ≤ sh i ∧ sh i ≤ 3) := hle.bd HRT.out.inside
  have hlb : w1.heap.size + 1 < W2.heap.size := HBB.out.lt
  have hW24 : W2.heap.size ≤ w4.heap.size := hb42.size
  have hxl1 : xw.length = (rowsOf gs).nN := by rw [hwe, lst_len]
  have hxl2 : xs'.length = (rowsOf gs).nN := by rw [hse, lst_len]
  have HAW : Hid (∀ k, k < (rowsOf gs).nN → ∃ b, ao = some ⟨b, 0, none⟩ ∧ w1.heap.size + 1 < b ∧ b < w4.heap.size ∧ w4.cell? ⟨b, k, none⟩ = some (.int .i64 (wn k))) := fun k hk => by
    obtain ⟨b, e1, e2, e3, e4, _⟩ := how k (by rw [hxl1]; exact hk)
    refine ⟨b, e1, by omega, Nat.lt_of_lt_of_le e3 hb4.size, ?_⟩
    replace e4 : w3.cell? ⟨b, k, none⟩ = some (.int .i64 (xw.getD k 0)) := e4
    rw [hwe, lst_get _ _ _ hk] at e4
    exact cell_keep e4 hb4
  have HAS : Hid (∀ k, k < (rowsOf gs).nN → ∃ b, bo = some ⟨b, 0, none⟩ ∧ w1.heap.size + 1 < b ∧ b < w4.heap.size ∧ w4.cell? ⟨b, k, none⟩ = some (.int .i64 (sh k))) := fun k hk => by
    obtain ⟨b, e1, e2, e3, e4, _⟩ := hos k (by rw [hxl2]; exact hk)
    refine ⟨b, e1, by have := hb3.size; omega, e3, ?_⟩
    replace e4 : w4.cell? ⟨b, k, none⟩ = some (.int .i64 (xs'.getD k 0)) := e4
    rw [hse, lst_get _ _ _ hk] at e4
    exact e4
  have HBL : Hid (Bl2 w4 (w1.heap.size + 1) w4.heap.size []) := ⟨⟨.pointer none, .slice none 0 0, Or.inl rfl, HBB4.out, ⟨rfl, Or.inl ⟨rfl, rfl⟩⟩⟩, by omega, Nat.le_refl _⟩
  have HKL : Hid (∀ V, Kp (w1.heap.size + 1) w4.heap.size w4 V → Below w.heap.size w V ∧ Laid V ∧ Names V) := fun V hV => by
    have h1 : Below w.heap.size w V := HB4.out.trans (hV.below (by have := HZ.out; omega) (by omega))
    exact ⟨h1, HL.out.keep h1, HNM.out.keep h1⟩
  rw [hxl1, hxl2]
  generalize (rowsOf gs).nN = n at *
  clear hxw hxs how hos hle hwe hse hb3 hb4 hsh z2 z3 z4 z5 hb42 hxl1 hxl2 hW2 HT HRT HR2 HK2 HK3 HBB HBB4 HSM z hbd
  go_wp2
  go_loopw [30] (fun t wr => ∃ q : Nat, q ≤ n ∧ t = .int .i64 q ∧ Bl2 wr (w1.heap.size + 1) w4.heap.size (ansTxt wn sh q) ∧ Kp (w1.heap.size + 1) w4.heap.size w4 wr) (fun t _ => n - (intOf t).toNat)
  case atStart => exact ⟨0, by omega, rfl, HBL.out, Kp.refl _ _ _⟩
  case round =>
    clear HBL
    obtain ⟨q, hq, rfl, hBl, hK⟩ := hrel
    by_cases hlt : q < n
    · have hbq := HBD.out q hlt
      have hlen := ansTxt_len wn sh q (by omega)
      have hdl := dec_len9 (n := q) (by omega)
      have n1 := nmT_len (sh q)
      have n2 := nmT_len (wn q)
      have HS : Hid (ansTxt wn sh (q + 1) = ansTxt wn sh q ++ (((dec q ++ [32]) ++ nmT (sh q)) ++ ((if wn q = sh q then [] else [32, 102, 111, 114, 32] ++ nmT (wn q)) ++ [10]))) := rfl
      obtain ⟨bs', rfl, hs1, hs2, hcs4⟩ := HAS.out q hlt
      obtain ⟨bw', rfl, hw1', hw2', hcw4⟩ := HAW.out q hlt
      have HCW : Hid (∀ V, Kp (w1.heap.size + 1) w4.heap.size w4 V → V.cell? ⟨bw', q, none⟩ = some (.int .i64 (wn q))) := fun V hV => hV.cell hw2' (by show bw' ≠ _; omega) hcw4
      have hcs : wr.cell? ⟨bs', q, none⟩ = some (.int .i64 (sh q)) := hK.cell hs2 (by show bs' ≠ _; omega) hcs4
      have HKr : Hid (Kp (w1.heap.size + 1) w4.heap.size w4 wr) := hK
      have hq9 : q < 1000000000 := by omega
      have hit := itoa_any q wr hq9 (HKL.out wr hK).2.1.tab
      clear hcs4 hcw4 hK
      go_wp2_with fail
      refine hit.mono ?_
      rintro e w5 ⟨rfl, hb5⟩
      have hK5 : Kp (w1.heap.size + 1) w4.heap.size w4 w5 := HKr.out.trans (Kp.ofBelow hb5 hBl.le)
      have HK5 : Hid (Kp (w1.heap.size + 1) w4.heap.size w4 w5) := hK5
      have hBl5 := hBl.keep hb5
      have haw := aspectWord_any (sh q) w5 (by omega) (by omega) (HKL.out w5 hK5).2.2
      obtain ⟨t1, ht1⟩ : ∃ t1, t1 = dec q ++ [32] := ⟨_, rfl⟩
      have h1 : ∀ V, (Op.stringOp .add (bs (dec q)) ⟨#[32]⟩).run Tryz.prog V = .ok (.string (bs t1)) V := fun V => by rw [ht1]; exact add_bs _ [32] (by simp; omega) V
      have l1 : t1.length ≤ 10 := by rw [ht1]; simp; omega
      rw [← ht1] at HS
      clear hit hBl hb5 hK5 ht1 hcs
      go_wp2_with fail
      refine haw.mono ?_
      rintro e w' ⟨rfl, hw'⟩
      have hw' := hw'.symm
      subst hw'
      clear haw
      generalize nmT (sh q) = m1 at *
      have h2 : ∀ V, (Op.stringOp .add (bs t1) (bs m1)).run Tryz.prog V = .ok (.string (bs (t1 ++ m1))) V := fun V => add_bs _ _ (by omega) V
      have l2 : (t1 ++ m1).length ≤ 14 := by simp; omega
      generalize t1 ++ m1 = t2 at *
      go_wp2_with fail
      refine (bl2_write _ _ _ t2 _ hBl5 (by omega)).mono ?_
      rintro e w6 ⟨rfl, hBl6, hk6⟩
      have HK6 : Hid (Kp (w1.heap.size + 1) w4.heap.size w4 w6) := HK5.out.trans hk6
      have hcw := HCW.out w6 HK6.out
      have l6 : (ansTxt wn sh q ++ t2).length ≤ 30 * q + 14 := by simp; omega
      clear hBl5 hk6 h1 h2
      by_cases heq : wn q = sh q
      · have z9 : (wn q != sh q) = false := by rw [bne_eq_false_iff_eq]; exact heq
        have HE : Hid (ansTxt wn sh (q + 1) = (ansTxt wn sh q ++ t2) ++ [10]) := by show _ = _; rw [HS.out, if_pos heq]; simp [List.append_assoc]
        generalize ansTxt wn sh q ++ t2 = r6 at *
        clear heq
        go_wp2_with fail
        refine (bl2_write _ _ _ [10] _ hBl6 (by simp; omega)).mono ?_
        rintro e w7 ⟨rfl, hBl7, hk7⟩
        rw [← HE.out] at hBl7
        have hK7 := HK6.out.trans hk7
        clear hBl6 hk7 hcw
        go_wp2
        go_roundw
        case rel => exact ⟨q + 1, by omega, by go_num, hBl7, hK7⟩
        case measure => simp [intOf]; omega
      · have z9 : (wn q != sh q) = true := by rw [bne_iff_ne]; exact heq
        have haw := aspectWord_any (wn q) w6 (by omega) (by omega) (HKL.out w6 HK6.out).2.2
        have HE : Hid (ansTxt wn sh (q + 1) = ((ansTxt wn sh q ++ t2) ++ ([32, 102, 111, 114, 32] ++ nmT (wn q))) ++ [10]) := by show _ = _; rw [HS.out, if_neg heq]; simp [List.append_assoc]
        generalize ansTxt wn sh q ++ t2 = r6 at *
        clear heq
        go_wp2_with fail
        refine haw.mono ?_
        rintro e w' ⟨rfl, hw'⟩
        have hw' := hw'.symm
        subst hw'
        clear haw
        have h4 : ∀ V, (Op.stringOp .add ⟨#[32, 102, 111, 114, 32]⟩ (bs (nmT (wn q)))).run Tryz.prog V = .ok (.string (bs ([32, 102, 111, 114, 32] ++ nmT (wn q)))) V := fun V => add_bs [32, 102, 111, 114, 32] _ (by simp; omega) V
        have l4 : ([32, 102, 111, 114, 32] ++ nmT (wn q)).length ≤ 9 := by simp; omega
        generalize [32, 102, 111, 114, 32] ++ nmT (wn q) = u1 at *
        go_wp2_with fail
        refine (bl2_write _ _ _ u1 _ hBl6 (by omega)).mono ?_
        rintro e w7 ⟨rfl, hBl7, hk7⟩
        have HK7 : Hid (Kp (w1.heap.size + 1) w4.heap.size w4 w7) := HK6.out.trans hk7
        have l7 : (r6 ++ u1).length ≤ 30 * q + 24 := by simp; omega
        generalize r6 ++ u1 = r7 at *
        clear hBl6 hk7 hcw h4
        go_wp2_with fail
        refine (bl2_write _ _ _ [10] _ hBl7 (by simp; omega)).mono ?_
        rintro e w8 ⟨rfl, hBl8, hk8⟩
        rw [← HE.out] at hBl8
        have hK8 := HK7.out.trans hk8
        clear hBl7 hk8
        go_wp2
        go_roundw
        case rel => exact ⟨q + 1, by omega, by go_num, hBl8, hK8⟩
        case measure => simp [intOf]; omega
    · obtain rfl : q = n := by omega
      have HE : Hid (IsAnswer xs (ansTxt wn sh q)) := HI.out _ rfl
      have hbw := (HKL.out wr hK).1
      go_wp2_with fail
      refine (bl2_string _ _ _ wr hBl).mono ?_
      rintro e w5 ⟨rfl, hb5⟩
      go_wp2
      go_ret
      exact ⟨⟨_, HE.out, rfl⟩, hbw.trans (hb5.mono (by have := HZ.out; omega))⟩

end Go.Proofs.YtachkoledebanaaGreatDoor
