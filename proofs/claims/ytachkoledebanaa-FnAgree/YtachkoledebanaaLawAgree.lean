/-
  FnAgree: at whatever bytes: true.
-/
import Derived.Test.YtachkoledebanaaMkC
import Derived.Test.YtachkoledebanaaWan2
import Derived.Test.YtachkoledebanaaWA
import Derived.Deep.LoopGhost
namespace Go.Proofs.Ytachkoledebanaa
open Go.RowKit

theorem drawn_small'' {k : Code} (h : Bytes k) : Small (drawn k) := by
  have := dN_bd h
  exact ⟨by show dN k ≤ _; omega, by show dN k ≤ _; omega, by show dN k ≤ _; omega, by show dN k ≤ _; omega, fun i _ => by show 4 ≤ _; omega⟩

theorem shows_lst'' {d : RD} {xs : List Int} (hR : Right d) (h : IsShows d xs) : ∃ wn sh, Least d d.nN wn sh ∧ xs = lst sh d.nN := by
  rcases h with ⟨_, wn, sh, hl, rfl⟩ | ⟨h, _⟩
  · exact ⟨wn, sh, hl, rfl⟩
  · exact absurd hR h
theorem wants_lst {d : RD} {xs : List Int} (hR : Right d) (h : IsWants d xs) : ∃ wn sh, Least d d.nN wn sh ∧ xs = lst wn d.nN := by
  rcases h with ⟨_, wn, sh, hl, rfl⟩ | ⟨h, _⟩
  · exact ⟨wn, sh, hl, rfl⟩
  · exact absurd hR h
theorem ret_lst'' {e : Ending} {lo n : Nat} {w' : World} {f : Nat → Int} (h : RetInts e lo w' (lst f n)) : ∃ ao cap, e = .returned (.slice ao n cap) ∧ OwnS w' lo w'.heap.size ao n (fun k => .int .i64 (f k)) := by
  obtain ⟨ao, cap, he, ho⟩ := h
  rw [lst_len] at he ho
  exact ⟨ao, cap, he, ho.congr fun k hk => by rw [lst_get f n k hk]⟩

/-- the first q of f, then 0 -/
def upTo (f : Nat → Int) (q j : Nat) : Int := if j < q then f j else 0
theorem upTo_next {w : World} {b n : Nat} {f : Nat → Int} {q : Nat} (h : w.rowIs b 3 n (fun j => .int .i64 (upTo f q j))) : (w.setCell ⟨b, q, none⟩ (.int .i64 (f q))).rowIs b 3 n (fun j => .int .i64 (upTo f (q + 1) j)) :=
  (h.set q (.int .i64 (f q))).congr fun j _ => by
    unfold upTo
    by_cases e : j = q
    · subst e; simp
    · by_cases g : j < q
      · rw [if_neg e, if_pos g, if_pos (by omega)]
      · rw [if_neg e, if_neg g, if_neg (by omega)]
theorem upTo_zero {w : World} {b n : Nat} {f : Nat → Int} (h : w.rowIs b 3 n (fun _ => .int .i64 0)) : w.rowIs b 3 n (fun j => .int .i64 (upTo f 0 j)) := h.congr fun j _ => by simp [upTo]
theorem upTo_all {w : World} {b n : Nat} {f : Nat → Int} (h : w.rowIs b 3 n (fun j => .int .i64 (upTo f n j))) : w.rowIs b 3 n (fun j => .int .i64 (f j)) := h.congr fun j hj => by unfold upTo; rw [if_pos hj]

theorem cells5 {wr V : World} {R t b4 k4 : Nat} {x0 x1 x2 x3 y : Value} (P : Blk wr R #[x0, x1, x2, x3] t) (h3 : wr.cell? ⟨b4, k4, none⟩ = some y) (hV : Below wr.heap.size wr V) :
    V.cell? ⟨b4, k4, none⟩ = some y ∧ V.cell? ⟨R, 0, none⟩ = some x0 ∧ V.cell? ⟨R, 1, none⟩ = some x1 ∧ V.cell? ⟨R, 2, none⟩ = some x2 ∧ V.cell? ⟨R, 3, none⟩ = some x3 := by
  have P' := P.keep hV
  exact ⟨(hV.cell (p := ⟨_, _, none⟩) (block_lt_of_cell h3)).trans h3, P'.cell 0, P'.cell 1, P'.cell 2, P'.cell 3⟩

theorem cells5s {wr V : World} {R t b4 k4 Y q : Nat} {x0 x1 x2 x3 y v : Value} (P : Blk wr R #[x0, x1, x2, x3] t) (h3 : wr.cell? ⟨b4, k4, none⟩ = some y) (hV : Below wr.heap.size wr V) (h1 : b4 < Y) (h2 : R < Y) :
    (V.setCell ⟨Y, q, none⟩ v).cell? ⟨b4, k4, none⟩ = some y ∧ (V.setCell ⟨Y, q, none⟩ v).cell? ⟨R, 0, none⟩ = some x0 ∧ (V.setCell ⟨Y, q, none⟩ v).cell? ⟨R, 1, none⟩ = some x1 ∧ (V.setCell ⟨Y, q, none⟩ v).cell? ⟨R, 2, none⟩ = some x2 ∧ (V.setCell ⟨Y, q, none⟩ v).cell? ⟨R, 3, none⟩ = some x3 := by
  have P' := (P.keep hV).other (a := ⟨Y, q, none⟩) (by show R ≠ Y; omega) v
  have hc := (hV.cell (p := ⟨b4, k4, none⟩) (block_lt_of_cell h3)).trans h3
  exact ⟨(World.cell?_setCell_other V ⟨Y, q, none⟩ ⟨b4, k4, none⟩ v (fun e => by injection e with e _; omega)).trans hc, P'.cell 0, P'.cell 1, P'.cell 2, P'.cell 3⟩

set_option maxHeartbeats 8000000 in
set_option maxRecDepth 100000 in
theorem lawAgree (ca : Option Addr) (cc : Nat) (k : Code) (ma : Option Addr) (mc : Nat) (m : Code) (w : World) (hk : Bytes k) (h : CodeAt w ca k) (hn63 : k.n ≤ 9223372036854775807) (hm : Bytes m) (g : CodeAt w ma m) (hm63 : m.n ≤ 9223372036854775807) :
    Calls Try.prog 4 #[.slice ca k.n cc, .slice ma m.n mc] w fun e w' => e = .returned (.bool true) ∧ Below w.heap.size w w' := by
  have HK : Hid (Bytes k ∧ Bytes m) := ⟨hk, hm⟩
  have HH : Hid (CodeAt w ca k ∧ CodeAt w ma m) := ⟨h, g⟩
  clear h hk hm g
  go_enter Try.func4, Try.ntmps4
  by_cases hn : k.n ≤ 1048576
  case neg =>
    have z : decide ((1048576 : Int) < (k.n : Int)) = true := by simp; omega
    go_wp2
    go_ret
    exact ⟨rfl, Below.refl _ _⟩
  have z : decide ((1048576 : Int) < (k.n : Int)) = false := by simp; omega
  by_cases hn2 : m.n ≤ 1048576
  case neg =>
    have z2 : decide ((1048576 : Int) < (m.n : Int)) = true := by simp; omega
    go_wp2
    go_ret
    exact ⟨rfl, Below.refl _ _⟩
  have z2 : decide ((1048576 : Int) < (m.n : Int)) = false := by simp; omega
  go_wp2_with fail
  refine (rows_any ca cc k w hn HK.out.1 HH.out.1).mono ?_
  rintro e w1 ⟨⟨a1, a2, a3, a4, c1, c2, c3, c4, bI, rfl, hM1⟩, hb1⟩
  have P1 := Blk.new w1 #[.slice a1 (drawn k).nN c1, .slice a2 (drawn k).nF c2, .slice a3 (drawn k).nO c3, .slice a4 (drawn k).nW c4] 27
  have bW1 : Below w1.heap.size w1 (w1.alloc (.cells #[.slice a1 (drawn k).nN c1, .slice a2 (drawn k).nF c2, .slice a3 (drawn k).nO c3, .slice a4 (drawn k).nW c4] 27)) := (Below.refl _ _).alloc (Nat.le_refl _) _
  have HA1 : Hid (RowAt (w1.alloc (.cells #[.slice a1 (drawn k).nN c1, .slice a2 (drawn k).nF c2, .slice a3 (drawn k).nO c3, .slice a4 (drawn k).nW c4] 27)) a1 a2 a3 a4 (fun j => some ⟨bI j, 0, none⟩) (fun _ => 4) (drawn k)) := (hM1.at (fun i _ => rfl)).keep bW1
  have B1 := chain hb1 bW1
  have x0 := P1.cell 0
  have x1 := P1.cell 1
  have x2 := P1.cell 2
  have x3 := P1.cell 3
  simp only [List.getElem?_toArray, List.getElem?_cons_succ, List.getElem?_cons_zero] at x0 x1 x2 x3
  clear hM1 hb1 bW1 z z2
  go_wp2_with fail
  generalize (w1.alloc (.cells #[.slice a1 (drawn k).nN c1, .slice a2 (drawn k).nF c2, .slice a3 (drawn k).nO c3, .slice a4 (drawn k).nW c4] 27)) = W1 at *
  have HSM : Hid (Small (drawn k) ∧ Right (drawn k)) := ⟨drawn_small'' HK.out.1, drawn_right HK.out.1⟩
  obtain ⟨d, hd⟩ : ∃ d, d = drawn k := ⟨_, rfl⟩
  rw [← hd] at P1 HA1 HSM x0 x1 x2 x3 ⊢
  clear hd
  have h60 := HSM.out.2.s.nN
  refine (implShows_any a1 a2 a3 a4 c1 c2 c3 c4 _ _ d W1 HSM.out.1 HA1.out).mono ?_
  rintro e w2 ⟨⟨xs, hxs, hret⟩, hb2⟩
  obtain ⟨wnx, sh, hlst, rfl⟩ := shows_lst'' HSM.out.2 hxs
  obtain ⟨sa, cA, rfl, hoA⟩ := ret_lst'' hret
  have HL : Hid (Least d d.nN wnx sh) := hlst
  have P2 := P1.keep hb2
  have HA2 : Hid (RowAt w2 a1 a2 a3 a4 (fun j => some ⟨bI j, 0, none⟩) (fun _ => 4) d) := HA1.out.keep hb2
  have B2 := chain B1 hb2
  clear x0 x1 x2 x3
  have x0 := P2.cell 0
  have x1 := P2.cell 1
  have x2 := P2.cell 2
  have x3 := P2.cell 3
  simp at x0 x1 x2 x3
  clear hxs hret hlst hb2 P1 HA1 B1
  go_wp2_with fail
  refine (implWants_any a1 a2 a3 a4 c1 c2 c3 c4 _ _ d w2 HSM.out.1 HA2.out).mono ?_
  rintro e w3 ⟨⟨ys, hys, hret⟩, hb3⟩
  obtain ⟨wn, sh2, hl2, rfl⟩ := wants_lst HSM.out.2 hys
  obtain ⟨sw, cW, rfl, hoW⟩ := ret_lst'' hret
  have hon := hl2.one HSM.out.2.inside HL.out
  have HE : Hid (∀ i, i < d.nN → wn i = wish d sh i) := fun i hi => (hon.1 i hi).trans (HL.out.ag.eW i hi)
  have hbd := HL.out.bd HSM.out.2.inside
  have HBD : Hid (∀ i, i < d.nN → -1 ≤ sh i ∧ sh i ≤ 3) := fun i hi => (hbd i hi).2.2
  have HBW : Hid (∀ i, i < d.nN → 0 ≤ wn i ∧ wn i ≤ 3) := fun i hi => by rw [hon.1 i hi]; exact ⟨(hbd i hi).1, (hbd i hi).2.1⟩
  have HAT : Hid (AgTo d wn sh d.nN) := fun i hi => ⟨HE.out i hi, by rw [hon.1 i hi]; exact HL.out.ag.eS i hi⟩
  have P3 := P2.keep hb3
  have HA3 : Hid (RowAt w3 a1 a2 a3 a4 (fun j => some ⟨bI j, 0, none⟩) (fun _ => 4) d) := HA2.out.keep hb3
  have B3 := chain B2 hb3
  have hcall := wAgrees_any a1 a2 a3 a4 sw sa c1 c2 c3 c4 cW cA _ _ d wn sh w3 HA3.out HSM.out.2 hoW.sl (hoA.keep hb3).sl HBW.out HBD.out HE.out
  have HCA : Hid (Calls Try.prog 21 #[.agg #[.slice a1 d.nN c1, .slice a2 d.nF c2, .slice a3 d.nO c3, .slice a4 d.nW c4], .slice sw d.nN cW, .slice sa d.nN cA] w3 fun e w' => RetB e (AgTo d wn sh d.nN) ∧ Below w3.heap.size w3 w') := hcall
  have HS3 : Hid (SlAt w3 sa d.nN (fun k => .int .i64 (sh k))) := (hoA.keep hb3).sl
  have hzn : ((d.nN : Int) != (d.nN : Int)) = false := by simp
  clear x0 x1 x2 x3
  have x0 := P3.cell 0
  have x1 := P3.cell 1
  have x2 := P3.cell 2
  have x3 := P3.cell 3
  simp at x0 x1 x2 x3
  clear hys hret hl2 hoW hoA hb3 hon hbd hcall P2 HA2 B2 HBW
  go_wp2_with fail
  refine HCA.out.mono ?_
  rintro e w4 ⟨⟨bb, rfl, hsay⟩, hb4⟩
  obtain rfl : bb = true := hsay.2 HAT.out
  have HP4 : Hid (Blk w4 w1.heap.size #[.slice a1 d.nN c1, .slice a2 d.nF c2, .slice a3 d.nO c3, .slice a4 d.nW c4] 27) := P3.keep hb4
  have HA4 : Hid (RowAt w4 a1 a2 a3 a4 (fun j => some ⟨bI j, 0, none⟩) (fun _ => 4) d) := HA3.out.keep hb4
  have HS4 : Hid (SlAt w4 sa d.nN (fun k => .int .i64 (sh k))) := HS3.out.keep hb4
  have HB4 : Hid (Below w.heap.size w w4) := chain B3 hb4
  have HC4 : Hid (CodeAt w4 ma m) := HH.out.2.keep HB4.out
  have hmk := run_make_row' (P := Try.prog) 23 3 (.int .i64 0) 8 Try.uInts Try.iInt rfl .i64 .i64 d.nN (by omega) (by omega)
  have HM : Hid ((w4.alloc (.cells (madeCells #[.int .i64 0] d.nN) 3)).rowIs w4.heap.size 3 d.nN (fun _ => .int .i64 0)) := World.rowIs_made w4 (.int .i64 0) d.nN 3
  have bA : Below w4.heap.size w4 (w4.alloc (.cells (madeCells #[.int .i64 0] d.nN) 3)) := (Below.refl _ _).alloc (Nat.le_refl _) _
  clear hsay hb4 P3 HA3 HS3 HCA B3 HAT HE x0 x1 x2 x3 HH
  go_wp2
  generalize (w4.alloc (.cells (madeCells #[.int .i64 0] d.nN) 3)) = W4 at *
  go_loopw [55] (fun t wr => ∃ q : Nat, q ≤ d.nN ∧ t = .int .i64 q ∧ wr.rowIs w4.heap.size 3 d.nN (fun j => .int .i64 (upTo (fun i => wb m i % 5 - 1) q j)) ∧ Below w4.heap.size w4 wr) (fun t _ => d.nN - (intOf t).toNat)
  case atStart => exact ⟨0, Nat.zero_le _, rfl, upTo_zero HM.out, bA⟩
  case round =>
    obtain ⟨q, hq, rfl, hrw, hbr⟩ := hrel
    by_cases hlt : q < d.nN
    · have hc := hrw.cell hlt
      have hf := hrw.frozen q
      replace hc : wr.cell? ⟨w4.heap.size, q, none⟩ = some (.int .i64 (upTo (fun i => wb m i % 5 - 1) q q)) := hc
      have hcall := wByte_any ma mc m q wr hn2 (by omega) HK.out.2 (HC4.out.keep hbr)
      have hy := wb_bd HK.out.2 q
      have HR : Hid ((wr.setCell ⟨w4.heap.size, q, none⟩ (.int .i64 (wb m q % 5 - 1))).rowIs w4.heap.size 3 d.nN (fun j => .int .i64 (upTo (fun i => wb m i % 5 - 1) (q + 1) j))) := upTo_next hrw
      have HBr : Hid (Below w4.heap.size w4 (wr.setCell ⟨w4.heap.size, q, none⟩ (.int .i64 (wb m q % 5 - 1)))) := hbr.setCell (Nat.le_refl _) _
      generalize upTo (fun i => wb m i % 5 - 1) q q = oldv at hc
      generalize wb m q = y at *
      clear hrw hbr
      go_wp2_with fail
      refine hcall.mono ?_
      rintro e w5 ⟨rfl, rfl⟩
      clear hcall
      go_wp2
      go_roundw
      case rel => exact ⟨q + 1, by omega, by go_num, HR.out, HBr.out⟩
      case measure => simp [intOf]; omega
    · obtain rfl : q = d.nN := by omega
      have HX0 : Hid (wr.rowIs w4.heap.size 3 d.nN (fun j => .int .i64 (wb m j % 5 - 1))) := upTo_all hrw
      have HBX : Hid (∀ j, j < d.nN → -1 ≤ wb m j % 5 - 1 ∧ wb m j % 5 - 1 ≤ 3) := fun j _ => by have := wb_bd HK.out.2 j; omega
      have HBr : Hid (Below w4.heap.size w4 wr) := hbr
      clear hrw hbr bA HM
      go_wp2
      go_loopg [9, 11] (5 * d.nN + 5) (fun g v9 v11 wx => ∃ (t b : Nat) (X : Nat → Int), t + g = 5 * d.nN + 5 ∧ v11 = .int .i64 t ∧ v9 = .slice (some ⟨b, 0, none⟩) d.nN d.nN ∧ wx.rowIs b 3 d.nN (fun j => .int .i64 (X j)) ∧ (∀ j, j < d.nN → -1 ≤ X j ∧ X j ≤ 3) ∧ Below w4.heap.size w4 wx)
      case atStart => exact ⟨0, w4.heap.size, fun j => wb m j % 5 - 1, Nat.zero_add _, rfl, rfl, HX0.out, HBX.out, HBr.out⟩
      case round =>
        clear HX0 HBX HBr
        obtain ⟨t, b, X, htg, rfl, rfl, hX, hXb, hbx⟩ := hrel
        obtain ⟨Wx, rfl⟩ : ∃ Wx, Wx = wr := ⟨wr, rfl⟩
        have HX : Hid (Wx.rowIs b 3 d.nN (fun j => .int .i64 (X j))) := hX
        have HXB : Hid (∀ j, j < d.nN → -1 ≤ X j ∧ X j ≤ 3) := hXb
        have HBx : Hid (Below w4.heap.size w4 Wx) := hbx
        have hbl := hX.lt
        by_cases hlt2 : t < 5 * d.nN + 5
        · have hmk := run_make_row' (P := Try.prog) 23 3 (.int .i64 0) 8 Try.uInts Try.iInt rfl .i64 .i64 d.nN (by omega) (by omega)
          have HMy : Hid ((Wx.alloc (.cells (madeCells #[.int .i64 0] d.nN) 3)).rowIs Wx.heap.size 3 d.nN (fun _ => .int .i64 0)) := World.rowIs_made Wx (.int .i64 0) d.nN 3
          have bY : Below Wx.heap.size Wx (Wx.alloc (.cells (madeCells #[.int .i64 0] d.nN) 3)) := (Below.refl _ _).alloc (Nat.le_refl _) _
          have hlt3 : (t : Int) < 5 * (d.nN : Int) + 5 := by omega
          clear hX hXb hbx
          go_wp2
          generalize (Wx.alloc (.cells (madeCells #[.int .i64 0] d.nN) 3)) = Wy at *
          clear hmk
          go_loopw [78] (fun tt wr => ∃ q : Nat, q ≤ d.nN ∧ tt = .int .i64 q ∧ wr.rowIs Wx.heap.size 3 d.nN (fun j => .int .i64 (upTo (fun i => lamp (d.wk i) (wish d X i)) q j)) ∧ Below Wx.heap.size Wx wr) (fun tt _ => d.nN - (intOf tt).toNat)
          case atStart => exact ⟨0, Nat.zero_le _, rfl, upTo_zero HMy.out, bY⟩
          case round =>
            obtain ⟨q, hq, rfl, hrw, hbr⟩ := hrel
            by_cases hlt : q < d.nN
            · have BW : Below w4.heap.size w4 wr := chain HBx.out hbr
              have hrow := HA4.out.keep BW
              have P := HP4.out.keep BW
              have hiW : q < d.nW := by rw [HSM.out.2.s.nW]; exact hlt
              obtain ⟨b4, o4, rfl, hc4⟩ := hrow.wk q hiW
              have hL := HSM.out.2.l q hiW
              simp only [hL] at hc4
              have hb4 : b4 < Wx.heap.size := by
                obtain ⟨b', o', e', hc'⟩ := HA4.out.wk q hiW
                have e1 : b4 = b' := by simp at e'; exact e'.1
                have h1 := block_lt_of_cell hc'
                have h2 := HBx.out.size
                simp only at h1
                omega
              have hR1 : w1.heap.size < Wx.heap.size := Nat.lt_of_lt_of_le HP4.out.lt HBx.out.size
              have hXw := HXB.out
              have HWW : Hid (∀ V, Below wr.heap.size wr V → Calls Try.prog 24 #[.agg #[.slice a1 d.nN c1, .slice a2 d.nF c2, .slice a3 d.nO c3, .slice (some ⟨b4, o4, none⟩) d.nW c4], .slice (some ⟨b, 0, none⟩) d.nN d.nN, .int .i64 q] V fun e w' => e = .returned (.int .i64 (wish d X q)) ∧ Below V.heap.size V w') := fun V hV =>
                wWant_any a1 a2 a3 (some ⟨b4, o4, none⟩) (some ⟨b, 0, none⟩) c1 c2 c3 c4 d.nN d.nN _ _ d X q V (hrow.keep hV) rfl HSM.out.2.s.nO h60 HSM.out.2.inside hlt (.ofRow (rowIs_below (rowIs_below HX.out hbr hbl) hV (Nat.lt_of_lt_of_le hbl hbr.size))) (fun k hk => (hXw k hk).1) (fun k hk => (hXw k hk).2)
              have hw0 : 0 ≤ wish d X q := by
                have hh := HSM.out.2.inside q hlt
                unfold wish
                by_cases h4 : d.nx q < 0
                · rw [if_pos h4]; split <;> omega
                · have := hXw (d.nx q).toNat (by omega)
                  rw [if_neg h4]
                  repeat' split
                  all_goals omega
              have hw3 := wish_hi d X q
              have HLL : Hid (∀ V, Below wr.heap.size wr V → Calls Try.prog 23 #[.slice (some ⟨bI q, 0, none⟩) 4 4, .int .i64 (wish d X q)] V fun e w' => e = .returned (.int .i64 (lamp (d.wk q) (wish d X q))) ∧ w' = V) := fun V hV =>
                wLamp_any (some ⟨bI q, 0, none⟩) 4 (d.wk q) (wish d X q) V ((by have := hrow.lm q hiW; rw [hL] at this; exact this : SlAt wr (some ⟨bI q, 0, none⟩) 4 (fun j => .bool (d.wk q j))).keep hV) (by omega) hw3
              have HRN : Hid (∀ V, Below wr.heap.size wr V → (V.setCell ⟨Wx.heap.size, q, none⟩ (.int .i64 (lamp (d.wk q) (wish d X q)))).rowIs Wx.heap.size 3 d.nN (fun j => .int .i64 (upTo (fun i => lamp (d.wk i) (wish d X i)) (q + 1) j)) ∧ Below Wx.heap.size Wx (V.setCell ⟨Wx.heap.size, q, none⟩ (.int .i64 (lamp (d.wk q) (wish d X q))))) := fun V hV =>
                ⟨upTo_next (rowIs_below hrw hV hrw.lt), (chain hbr hV).setCell (Nat.le_refl _) _⟩
              have hcy := hrw.cell hlt
              have hfy := hrw.frozen q
              replace hcy : wr.cell? ⟨Wx.heap.size, q, none⟩ = some (.int .i64 (upTo (fun i => lamp (d.wk i) (wish d X i)) q q)) := hcy
              generalize upTo (fun i => lamp (d.wk i) (wish d X i)) q q = oldv at hcy
              have hylt := hrw.lt
              have hq0 : (0 : Int) ≤ (q : Int) := by omega
              have hqW : (q : Int) < (d.nW : Int) := by omega
              have hqN : (q : Int) < (d.nN : Int) := by omega
              clear hrow hL hrw hXw hbr
              go_wp2_with fail
              go_region_held3 (fun w' => w'.cell? ⟨b4, o4 + q, none⟩ = some (.slice (some ⟨bI q, 0, none⟩) 4 4) ∧ w'.cell? ⟨w1.heap.size, 0, none⟩ = some (.slice a1 d.nN c1) ∧ w'.cell? ⟨w1.heap.size, 1, none⟩ = some (.slice a2 d.nF c2) ∧ w'.cell? ⟨w1.heap.size, 2, none⟩ = some (.slice a3 d.nO c3) ∧ w'.cell? ⟨w1.heap.size, 3, none⟩ = some (.slice (some ⟨b4, o4, none⟩) d.nW c4))
                (first
                  | exact cells5 P hc4 BV
                  | exact cells5 P hc4 (Below.refl _ _).drew
                  | exact cells5s P hc4 BV hb4 hR1)
                (first
                  | (go_at_call 24; (refine (HWW.out _ ?_).mono ?_; exact (Below.refl _ _).drew; rintro e v1 ⟨rfl, hv1⟩; have BV : Below wr.heap.size wr v1 := chain (Below.refl _ _).drew hv1; have hcy' := (BV.cell (p := ⟨Wx.heap.size, q, none⟩) hylt).trans hcy; have hfy' := (BV.frozen (p := ⟨Wx.heap.size, q, none⟩) hylt).trans hfy))
                  | (go_at_call 23; (refine (HLL.out _ BV).mono ?_; rintro e v2 ⟨rfl, rfl⟩)))
              all_goals
                have HFN := HRN.out _ BV
                have HF1 : Hid _ := HFN.1
                have HF2 : Hid _ := HFN.2
                clear HFN HRN
                go_wp2
                go_roundw
                case rel => exact ⟨q + 1, by omega, by go_num, HF1.out, HF2.out⟩
                case measure => simp [intOf]; omega
            · obtain rfl : q = d.nN := by omega
              have HY : Hid (wr.rowIs Wx.heap.size 3 d.nN (fun j => .int .i64 (lamp (d.wk j) (wish d X j)))) := upTo_all hrw
              have HYB : Hid (∀ j, j < d.nN → -1 ≤ lamp (d.wk j) (wish d X j) ∧ lamp (d.wk j) (wish d X j) ≤ 3) := fun j hj => by
                have h3 := wish_hi d X j
                have h0 : -1 ≤ wish d X j := by
                  have hh := HSM.out.2.inside j hj
                  unfold wish
                  by_cases h4 : d.nx j < 0
                  · rw [if_pos h4]; split <;> omega
                  · have := HXB.out (d.nx j).toNat (by omega)
                    rw [if_neg h4]
                    repeat' split
                    all_goals omega
                have := lamp_le (d.wk j) (wish d X j) h0
                exact ⟨lamp_ge _ _, by omega⟩
              have HBn : Hid (Below w4.heap.size w4 wr) := chain HBx.out hbr
              clear hrw hbr bY HMy
              go_wp2
              go_roundg (5 * d.nN + 5 - (t + 1))
              case measure => omega
              case rel => exact ⟨t + 1, Wx.heap.size, fun j => lamp (d.wk j) (wish d X j), by omega, by go_num, rfl, HY.out, HYB.out, HBn.out⟩
        · have ht : ¬ (t : Int) < 5 * (d.nN : Int) + 5 := by omega
          have hmk := run_make_row' (P := Try.prog) 23 3 (.int .i64 0) 8 Try.uInts Try.iInt rfl .i64 .i64 d.nN (by omega) (by omega)
          have HMw : Hid ((Wx.alloc (.cells (madeCells #[.int .i64 0] d.nN) 3)).rowIs Wx.heap.size 3 d.nN (fun _ => .int .i64 0)) := World.rowIs_made Wx (.int .i64 0) d.nN 3
          have bY : Below Wx.heap.size Wx (Wx.alloc (.cells (madeCells #[.int .i64 0] d.nN) 3)) := (Below.refl _ _).alloc (Nat.le_refl _) _
          clear hX hXb hbx
          go_wp2
          generalize (Wx.alloc (.cells (madeCells #[.int .i64 0] d.nN) 3)) = Wy at *
          clear hmk
          go_loopw [100] (fun tt wr => ∃ q : Nat, q ≤ d.nN ∧ tt = .int .i64 q ∧ wr.rowIs Wx.heap.size 3 d.nN (fun j => .int .i64 (upTo (wish d X) q j)) ∧ Below Wx.heap.size Wx wr) (fun tt _ => d.nN - (intOf tt).toNat)
          case atStart => exact ⟨0, Nat.zero_le _, rfl, upTo_zero HMw.out, bY⟩
          case round =>
            obtain ⟨q, hq, rfl, hrw, hbr⟩ := hrel
            have BW : Below w4.heap.size w4 wr := chain HBx.out hbr
            have P := HP4.out.keep BW
            have hrow := HA4.out.keep BW
            have hXr := rowIs_below HX.out hbr hbl
            have y0 := P.cell 0
            have y1 := P.cell 1
            have y2 := P.cell 2
            have y3 := P.cell 3
            simp at y0 y1 y2 y3
            by_cases hlt : q < d.nN
            · have hcall := wWant_any a1 a2 a3 a4 (some ⟨b, 0, none⟩) c1 c2 c3 c4 d.nN d.nN _ _ d X q wr hrow rfl HSM.out.2.s.nO h60 HSM.out.2.inside hlt (.ofRow hXr) (fun k hk => (HXB.out k hk).1) (fun k hk => (HXB.out k hk).2)
              have hcy := hrw.cell hlt
              have hfy := hrw.frozen q
              replace hcy : wr.cell? ⟨Wx.heap.size, q, none⟩ = some (.int .i64 (upTo (wish d X) q q)) := hcy
              generalize upTo (wish d X) q q = oldv at hcy
              have hylt := hrw.lt
              have HRN : Hid (∀ V, Below wr.heap.size wr V → (V.setCell ⟨Wx.heap.size, q, none⟩ (.int .i64 (wish d X q))).rowIs Wx.heap.size 3 d.nN (fun j => .int .i64 (upTo (wish d X) (q + 1) j)) ∧ Below Wx.heap.size Wx (V.setCell ⟨Wx.heap.size, q, none⟩ (.int .i64 (wish d X q)))) := fun V hV =>
                ⟨upTo_next (rowIs_below hrw hV hrw.lt), (chain hbr hV).setCell (Nat.le_refl _) _⟩
              clear hrow hrw hXr hbr P
              go_wp2_with fail
              refine hcall.mono ?_
              rintro e v1 ⟨rfl, hv1⟩
              have hcy' := (hv1.cell (p := ⟨Wx.heap.size, q, none⟩) hylt).trans hcy
              have hfy' := (hv1.frozen (p := ⟨Wx.heap.size, q, none⟩) hylt).trans hfy
              have HFN := HRN.out _ hv1
              have HF1 : Hid _ := HFN.1
              have HF2 : Hid _ := HFN.2
              clear HFN HRN hcall hv1 hcy hfy
              go_wp2
              go_roundw
              case rel => exact ⟨q + 1, by omega, by go_num, HF1.out, HF2.out⟩
              case measure => simp [intOf]; omega
            · obtain rfl : q = d.nN := by omega
              have HWr := upTo_all hrw
              have hw03 : ∀ j, j < d.nN → 0 ≤ wish d X j ∧ wish d X j ≤ 3 := fun j hj => by
                have hh := HSM.out.2.inside j hj
                refine ⟨?_, wish_hi d X j⟩
                unfold wish
                by_cases h4 : d.nx j < 0
                · rw [if_pos h4]; split <;> omega
                · have := HXB.out (d.nx j).toNat (by omega)
                  rw [if_neg h4]
                  repeat' split
                  all_goals omega
              have hcall := wAgrees_any a1 a2 a3 a4 (some ⟨Wx.heap.size, 0, none⟩) (some ⟨b, 0, none⟩) c1 c2 c3 c4 d.nN d.nN _ _ d (wish d X) X wr hrow HSM.out.2 (.ofRow HWr) (.ofRow hXr) hw03 HXB.out (fun _ _ => rfl)
              have HS5 : Hid (SlAt wr sa d.nN (fun k => .int .i64 (sh k))) := HS4.out.keep BW
              have HX5 : Hid (wr.rowIs b 3 d.nN (fun j => .int .i64 (X j))) := hXr
              have HB5 : Hid (Below w.heap.size w wr) := chain HB4.out BW
              clear hrow hrw hXr hbr P HWr hw03
              go_wp2_with fail
              refine hcall.mono ?_
              rintro e v1 ⟨⟨bb, rfl, hsay⟩, hv1⟩
              have HB6 : Hid (Below w.heap.size w v1) := chain HB5.out hv1
              cases bb with
              | false =>
                clear hsay hcall hv1
                go_wp2
                go_ret
                exact ⟨rfl, HB6.out⟩
              | true =>
                have hag := hsay.1 rfl
                have HLE : Hid (∀ i, i < d.nN → sh i ≤ X i) := HL.out.le (wish d X) X ⟨fun i hi => (hag i hi).1, fun i hi => (hag i hi).2, fun i hi => (HXB.out i hi).1⟩
                have HS6 : Hid (SlAt v1 sa d.nN (fun k => .int .i64 (sh k))) := HS5.out.keep hv1
                have HX6 : Hid (v1.rowIs b 3 d.nN (fun j => .int .i64 (X j))) := rowIs_below HX5.out hv1 HX5.out.lt
                clear hsay hcall hv1 hag
                go_wp2
                go_loopw [118] (fun tt wr => ∃ q x : Nat, q ≤ d.nN ∧ tt = .int .i64 q ∧ wr = v1.drewN x) (fun tt _ => d.nN - (intOf tt).toNat)
                case atStart => exact ⟨0, 0, Nat.zero_le _, rfl, rfl⟩
                case round =>
                  obtain ⟨q, x, hq, rfl, rfl⟩ := hrel
                  by_cases hlt : q < d.nN
                  · obtain ⟨ba, oa, rfl, hca⟩ := HS6.out q hlt
                    have hcx := HX6.out.cell hlt
                    have hle := HLE.out q hlt
                    have zz : decide (X q < sh q) = false := by simp; omega
                    have hq0 : (0 : Int) ≤ (q : Int) := by omega
                    have hqN : (q : Int) < (d.nN : Int) := by omega
                    go_wp2_with fail
                    go_quiet (fail)
                    go_wp2
                    go_roundw
                    case rel => exact ⟨q + 1, _, by omega, by go_num, rfl⟩
                    case measure => simp [intOf]; omega
                  · go_wp2
                    go_ret
                    exact ⟨rfl, below_drewN HB6.out x⟩

end Go.Proofs.Ytachkoledebanaa
