/-
  FnTop: at whatever bytes: true.
-/
import Derived.Test.YtachkoledebanaaWan2
import Derived.Test.YtachkoledebanaaRows3
import Derived.Test.YtachkoledebanaaWI
import Derived.Deep.DeepCutAuto
import Derived.Deep.RegionHeld3
namespace Go.Proofs.Ytachkoledebanaa
open Go.RowKit

theorem drawn_small {k : Code} (h : Bytes k) : Small (drawn k) := by
  have := dN_bd h
  exact ⟨by show dN k ≤ _; omega, by show dN k ≤ _; omega, by show dN k ≤ _; omega, by show dN k ≤ _; omega, fun i _ => by show 4 ≤ _; omega⟩

/-- two boxes, cell by cell -/
theorem cells8 {w : World} {R1 R2 t : Nat} {x0 x1 x2 x3 y0 y1 y2 y3 : Value} (P : Blk w R1 #[x0, x1, x2, x3] t) (Q : Blk w R2 #[y0, y1, y2, y3] t) :
    w.cell? ⟨R1, 0, none⟩ = some x0 ∧ w.cell? ⟨R1, 1, none⟩ = some x1 ∧ w.cell? ⟨R1, 2, none⟩ = some x2 ∧ w.cell? ⟨R1, 3, none⟩ = some x3 ∧ w.cell? ⟨R2, 0, none⟩ = some y0 ∧ w.cell? ⟨R2, 1, none⟩ = some y1 ∧ w.cell? ⟨R2, 2, none⟩ = some y2 ∧ w.cell? ⟨R2, 3, none⟩ = some y3 :=
  ⟨P.cell 0, P.cell 1, P.cell 2, P.cell 3, Q.cell 0, Q.cell 1, Q.cell 2, Q.cell 3⟩

set_option maxHeartbeats 4000000 in
theorem lawTop (ca : Option Addr) (cc : Nat) (k : Code) (w : World) (hk : Bytes k) (h : CodeAt w ca k) (hn63 : k.n ≤ 9223372036854775807) :
    Calls Try.prog 3 #[.slice ca k.n cc] w fun e w' => e = .returned (.bool true) ∧ Below w.heap.size w w' := by
  have HK : Hid (Bytes k) := hk
  have HH : Hid (CodeAt w ca k) := h
  clear h hk
  go_enter Try.func3, Try.ntmps3
  by_cases hn : k.n ≤ 1048576
  case neg =>
    have z : decide ((1048576 : Int) < (k.n : Int)) = true := by simp; omega
    go_wp2
    go_ret
    exact ⟨rfl, Below.refl _ _⟩
  go_wp2_with fail
  refine (rows_any ca cc k w hn HK.out HH.out).mono ?_
  rintro e w1 ⟨⟨a1, a2, a3, a4, c1, c2, c3, c4, bI, rfl, hM1⟩, hb1⟩
  have P1 := Blk.new w1 #[.slice a1 (drawn k).nN c1, .slice a2 (drawn k).nF c2, .slice a3 (drawn k).nO c3, .slice a4 (drawn k).nW c4] 27
  have bW1 : Below w1.heap.size w1 (w1.alloc (.cells #[.slice a1 (drawn k).nN c1, .slice a2 (drawn k).nF c2, .slice a3 (drawn k).nO c3, .slice a4 (drawn k).nW c4] 27)) := (Below.refl _ _).alloc (Nat.le_refl _) _
  have hA1 := (hM1.at (fun i _ => rfl)).keep bW1
  clear hM1
  go_wp2_with fail
  generalize (w1.alloc (.cells #[.slice a1 (drawn k).nN c1, .slice a2 (drawn k).nF c2, .slice a3 (drawn k).nO c3, .slice a4 (drawn k).nW c4] 27)) = W1 at *
  have B1 : Below w.heap.size w W1 := chain hb1 bW1
  refine (rows_any ca cc k W1 hn HK.out (HH.out.keep B1)).mono ?_
  rintro e w2 ⟨⟨b1, b2, b3, b4, e1, e2, e3, e4, bJ, rfl, hM2⟩, hb2⟩
  have P2 := P1.keep hb2
  have Q2 := Blk.new w2 #[.slice b1 (drawn k).nN e1, .slice b2 (drawn k).nF e2, .slice b3 (drawn k).nO e3, .slice b4 (drawn k).nW e4] 27
  have bW2 : Below w2.heap.size w2 (w2.alloc (.cells #[.slice b1 (drawn k).nN e1, .slice b2 (drawn k).nF e2, .slice b3 (drawn k).nO e3, .slice b4 (drawn k).nW e4] 27)) := (Below.refl _ _).alloc (Nat.le_refl _) _
  have P3 := P2.keep bW2
  have hA2 := (hA1.keep hb2).keep bW2
  have hS2 := (hM2.at (fun i _ => rfl)).keep bW2
  have x0 := P3.cell 0
  have x1 := P3.cell 1
  have x2 := P3.cell 2
  have x3 := P3.cell 3
  simp only [List.getElem?_toArray, List.getElem?_cons_succ, List.getElem?_cons_zero] at x0 x1 x2 x3
  clear hM2 hA1 P1 P2 bW1 hb1
  go_wp2_with fail
  generalize (w2.alloc (.cells #[.slice b1 (drawn k).nN e1, .slice b2 (drawn k).nF e2, .slice b3 (drawn k).nO e3, .slice b4 (drawn k).nW e4] 27)) = W2 at *
  have B2 : Below w.heap.size w W2 := chain B1 (chain hb2 bW2)
  have hsm := drawn_small HK.out
  have HSM : Hid (Small (drawn k)) := hsm
  clear bW2 hb2 B1 hsm
  refine (implShows_any a1 a2 a3 a4 c1 c2 c3 c4 _ _ (drawn k) W2 HSM.out hA2).mono ?_
  rintro e w3 ⟨⟨xs, hxs, ⟨sa, cA, rfl, hoA⟩⟩, hb3⟩
  have hle : xs.length ≤ 60 := hxs.le
  have P := P3.keep hb3
  have Q := Q2.keep hb3
  have HXS : Hid (IsShows (drawn k) xs) := hxs
  have B3 : Below w.heap.size w w3 := chain B2 hb3
  have HA3 : Hid (RowAt w3 a1 a2 a3 a4 (fun j => some ⟨bI j, 0, none⟩) (fun _ => 4) (drawn k)) := hA2.keep hb3
  have HS3 : Hid (RowAt w3 b1 b2 b3 b4 (fun j => some ⟨bJ j, 0, none⟩) (fun _ => 4) (drawn k)) := hS2.keep hb3
  have HOA : Hid (OwnS w3 W2.heap.size w3.heap.size sa xs.length (fun k => .int .i64 (xs.getD k 0))) := hoA
  have HP : Hid (Blk w3 w1.heap.size #[.slice a1 (drawn k).nN c1, .slice a2 (drawn k).nF c2, .slice a3 (drawn k).nO c3, .slice a4 (drawn k).nW c4] 27 ∧ Blk w3 w2.heap.size #[.slice b1 (drawn k).nN e1, .slice b2 (drawn k).nF e2, .slice b3 (drawn k).nO e3, .slice b4 (drawn k).nW e4] 27) := ⟨P, Q⟩
  have HSZ : Hid (W2.heap.size ≤ w3.heap.size) := hb3.size
  have HLT : Hid (w1.heap.size < W2.heap.size ∧ w2.heap.size < W2.heap.size) := ⟨P3.lt, Q2.lt⟩
  have HR2 : Hid (RowAt W2 a1 a2 a3 a4 (fun j => some ⟨bI j, 0, none⟩) (fun _ => 4) (drawn k) ∧ RowAt W2 b1 b2 b3 b4 (fun j => some ⟨bJ j, 0, none⟩) (fun _ => 4) (drawn k) ∧ Below W2.heap.size W2 w3) := ⟨hA2, hS2, hb3⟩
  clear hA2 hS2 hoA P3 Q2 hxs x0 x1 x2 x3 hb3
  go_wp2_with fail
  go_cut [34] (fun t wz => t = .bool false ∧ Below w3.heap.size w3 wz)
  case first =>
    go_region_held3 (fun w' => w'.cell? ⟨w1.heap.size, 0, none⟩ = some (.slice a1 (drawn k).nN c1) ∧ w'.cell? ⟨w1.heap.size, 1, none⟩ = some (.slice a2 (drawn k).nF c2) ∧ w'.cell? ⟨w1.heap.size, 2, none⟩ = some (.slice a3 (drawn k).nO c3) ∧ w'.cell? ⟨w1.heap.size, 3, none⟩ = some (.slice a4 (drawn k).nW c4) ∧ w'.cell? ⟨w2.heap.size, 0, none⟩ = some (.slice b1 (drawn k).nN e1) ∧ w'.cell? ⟨w2.heap.size, 1, none⟩ = some (.slice b2 (drawn k).nF e2) ∧ w'.cell? ⟨w2.heap.size, 2, none⟩ = some (.slice b3 (drawn k).nO e3) ∧ w'.cell? ⟨w2.heap.size, 3, none⟩ = some (.slice b4 (drawn k).nW e4)) (exact cells8 P Q) (first
      | (go_at_call 17; (refine (specShows_any b1 b2 b3 b4 e1 e2 e3 e4 (fun j => some ⟨bJ j, 0, none⟩) (fun _ => 4) (drawn k) _ HSM.out ?_).mono ?_; exact HS3.out.drew; rintro e w4 ⟨⟨ys, hys, ⟨ss, cS, rfl, hoS⟩⟩, hb4⟩; obtain rfl := HXS.out.one hys; have P := HP.out.1.keep (chain (Below.refl _ _).drew hb4); have Q := HP.out.2.keep (chain (Below.refl _ _).drew hb4); have B4 : Below w3.heap.size w3 w4 := chain (Below.refl _ _).drew hb4))
      | (go_at_call_of 16 (Value.slice sa xs.length cA); refine (wInts_same sa ss xs.length cA cS (fun k => xs.getD k 0) w4 (by omega) (HOA.out.keep B4).sl hoS.sl).mono ?_; rintro e w5 ⟨rfl, m5, hw5⟩; have hb5 : Below w4.heap.size w4 w5 := (by rw [hw5]; exact below_drewN (Below.refl _ _) _); clear hw5; have P := HP.out.1.keep (chain B4 hb5); have Q := HP.out.2.keep (chain B4 hb5); have B5 : Below w3.heap.size w3 w5 := chain B4 hb5)
      | (go_at_call 18; refine (implWants_any a1 a2 a3 a4 c1 c2 c3 c4 _ _ (drawn k) w5 HSM.out (HA3.out.keep B5)).mono ?_; rintro e w6 ⟨⟨zs, hzs, ⟨sz, cZ, rfl, hoZ⟩⟩, hb6⟩; have hlz : zs.length ≤ 60 := hzs.le; have HZS : Hid (IsWants (drawn k) zs) := hzs; clear hzs; have B6 : Below w3.heap.size w3 w6 := chain B5 hb6; have P := HP.out.1.keep B6; have Q := HP.out.2.keep B6)
      | (go_at_call 19; refine (specWants_any b1 b2 b3 b4 e1 e2 e3 e4 _ _ (drawn k) w6 HSM.out (HS3.out.keep B6)).mono ?_; rintro e w7 ⟨⟨us, hus, ⟨su, cU, rfl, hoU⟩⟩, hb7⟩; obtain rfl := HZS.out.one hus; have hoZ7 := hoZ.keep hb7; have B7 : Below w3.heap.size w3 w7 := chain B6 hb7; have P := HP.out.1.keep B7; have Q := HP.out.2.keep B7)
      | (go_at_call_of 16 (Value.slice sz zs.length cZ); refine (wInts_same sz su zs.length cZ cU (fun k => zs.getD k 0) w7 (by omega) hoZ7.sl hoU.sl).mono ?_; rintro e w8 ⟨rfl, m8, hw8⟩; have hb8 : Below w7.heap.size w7 w8 := (by rw [hw8]; exact below_drewN (Below.refl _ _) _); clear hw8; have B8 : Below w3.heap.size w3 w8 := chain B7 hb8; have P := HP.out.1.keep B8; have Q := HP.out.2.keep B8)
      | (go_at_call 20; refine (wRow_same a1 a2 a3 a4 b1 b2 b3 b4 c1 c2 c3 c4 e1 e2 e3 e4 _ _ _ _ (drawn k) w8 HSM.out (HA3.out.keep B8) (HS3.out.keep B8)).mono ?_; rintro e w9 ⟨rfl, hb9⟩; have B9 : Below w3.heap.size w3 w9 := chain B8 hb9; have P := HP.out.1.keep B9; have Q := HP.out.2.keep B9))
    all_goals
      go_wp2_with fail
      go_meet
      exact ⟨rfl, B9⟩
  case rest =>
    obtain ⟨rfl, hb9⟩ := hcut
    obtain ⟨w9, rfl⟩ : ∃ w9, w9 = wc := ⟨wc, rfl⟩
    have HO9 : Hid (OwnS w9 W2.heap.size w3.heap.size sa xs.length (fun k => .int .i64 (xs.getD k 0))) := HOA.out.keep hb9
    have HB9 : Hid (Below w3.heap.size w3 w9) := hb9
    have HZ9 : Hid (w3.heap.size ≤ w9.heap.size) := hb9.size
    clear hb9 P Q
    go_wp2
    go_loopw [37] (fun t wr => ∃ q : Nat, q ≤ xs.length ∧ t = .int .i64 q ∧ OwnS wr W2.heap.size w3.heap.size sa xs.length (fun j => if j < q then .int .i64 77 else .int .i64 (xs.getD j 0)) ∧ Only W2.heap.size w3.heap.size w9 wr) (fun t _ => xs.length - (intOf t).toNat)
    case atStart => exact ⟨0, Nat.zero_le _, rfl, HO9.out.congr (fun j _ => by simp), .refl _ _ _⟩
    case round =>
      obtain ⟨q, hq, rfl, hoq, hon⟩ := hrel
      by_cases hlt : q < xs.length
      · obtain ⟨b, rfl, q1, q2, hc, hf⟩ := hoq q hlt
        obtain ⟨u, hu⟩ : ∃ u, u = (if q < q then Value.int .i64 77 else .int .i64 (xs.getD q 0)) := ⟨_, rfl⟩
        have hui : u = .int .i64 (xs.getD q 0) := by rw [hu, if_neg (Nat.lt_irrefl _)]
        replace hc : wr.cell? ⟨b, q, none⟩ = some u := by rw [hu]; exact hc
        generalize xs.getD q 0 = y at hui
        subst hui
        have HR : Hid (OwnS (wr.setCell ⟨b, q, none⟩ (.int .i64 77)) W2.heap.size w3.heap.size (some ⟨b, 0, none⟩) xs.length (fun j => if j < q + 1 then .int .i64 77 else .int .i64 (xs.getD j 0))) :=
          (hoq.store (k := q) (.int .i64 77)).congr (fun j _ => by
            by_cases e : j = q
            · subst e; simp
            · by_cases g : j < q
              · rw [if_neg e, if_pos g, if_pos (by omega)]
              · rw [if_neg e, if_neg g, if_neg (by omega)])
        have HN : Hid (Only W2.heap.size w3.heap.size w9 (wr.setCell ⟨b, q, none⟩ (.int .i64 77))) := hon.setCell q1 q2 _
        clear hoq hon hu HO9 HOA
        go_wp2
        go_roundw
        case rel => exact ⟨q + 1, by omega, by go_num, HR.out, HN.out⟩
        case measure => simp [intOf]; omega
      · have bel9 : Below W2.heap.size w9 wr := hon.below (Nat.le_refl _) (Nat.le_trans HSZ.out HZ9.out)
        have bel3 : Below W2.heap.size w3 wr := (HB9.out.mono HSZ.out).trans bel9
        have P := HP.out.1.below bel3 HLT.out.1
        have Q := HP.out.2.below bel3 HLT.out.2
        have bw2 : Below W2.heap.size W2 wr := HR2.out.2.2.trans bel3
        have HA4 : Hid (RowAt wr a1 a2 a3 a4 (fun j => some ⟨bI j, 0, none⟩) (fun _ => 4) (drawn k)) := HR2.out.1.keep bw2
        have HS4 : Hid (RowAt wr b1 b2 b3 b4 (fun j => some ⟨bJ j, 0, none⟩) (fun _ => 4) (drawn k)) := HR2.out.2.1.keep bw2
        have HP4 : Hid (Blk wr w1.heap.size #[.slice a1 (drawn k).nN c1, .slice a2 (drawn k).nF c2, .slice a3 (drawn k).nO c3, .slice a4 (drawn k).nW c4] 27 ∧ Blk wr w2.heap.size #[.slice b1 (drawn k).nN e1, .slice b2 (drawn k).nF e2, .slice b3 (drawn k).nO e3, .slice b4 (drawn k).nW e4] 27) := ⟨P, Q⟩
        have HBw : Hid (Below w.heap.size w wr) := B2.trans (bw2.mono B2.size)
        clear hoq hon bel9 bel3 bw2 HR2 HP HO9 HB9 HOA HA3 HS3 B2 B3
        go_wp2_with fail
        go_region_held3 (fun w' => w'.cell? ⟨w1.heap.size, 0, none⟩ = some (.slice a1 (drawn k).nN c1) ∧ w'.cell? ⟨w1.heap.size, 1, none⟩ = some (.slice a2 (drawn k).nF c2) ∧ w'.cell? ⟨w1.heap.size, 2, none⟩ = some (.slice a3 (drawn k).nO c3) ∧ w'.cell? ⟨w1.heap.size, 3, none⟩ = some (.slice a4 (drawn k).nW c4) ∧ w'.cell? ⟨w2.heap.size, 0, none⟩ = some (.slice b1 (drawn k).nN e1) ∧ w'.cell? ⟨w2.heap.size, 1, none⟩ = some (.slice b2 (drawn k).nF e2) ∧ w'.cell? ⟨w2.heap.size, 2, none⟩ = some (.slice b3 (drawn k).nO e3) ∧ w'.cell? ⟨w2.heap.size, 3, none⟩ = some (.slice b4 (drawn k).nW e4)) (exact cells8 P Q) (first
          | (go_at_call 15; (refine (implShows_any a1 a2 a3 a4 c1 c2 c3 c4 (fun j => some ⟨bI j, 0, none⟩) (fun _ => 4) (drawn k) _ HSM.out ?_).mono ?_; exact HA4.out.drew; rintro e v1 ⟨⟨ys, hys, ⟨sy, cY, rfl, hoY⟩⟩, hv1⟩; have hly : ys.length ≤ 60 := hys.le; have HYS : Hid (IsShows (drawn k) ys) := hys; clear hys; have V1 : Below wr.heap.size wr v1 := chain (Below.refl _ _).drew hv1; have P := HP4.out.1.keep V1; have Q := HP4.out.2.keep V1))
          | (go_at_call 17; (refine (specShows_any b1 b2 b3 b4 e1 e2 e3 e4 (fun j => some ⟨bJ j, 0, none⟩) (fun _ => 4) (drawn k) v1 HSM.out (HS4.out.keep V1)).mono ?_; rintro e v2 ⟨⟨zs, hzs, ⟨sz, cZ, rfl, hoZ⟩⟩, hv2⟩; obtain rfl := HYS.out.one hzs; have hoY2 := hoY.keep hv2; have V2 : Below wr.heap.size wr v2 := chain V1 hv2; have P := HP4.out.1.keep V2; have Q := HP4.out.2.keep V2))
          | (go_at_call 16; (refine (wInts_same sy sz ys.length cY cZ (fun k => ys.getD k 0) v2 (by omega) hoY2.sl hoZ.sl).mono ?_; rintro e v3 ⟨rfl, m3, hm3⟩; have hv3 : Below v2.heap.size v2 v3 := (by rw [hm3]; exact below_drewN (Below.refl _ _) _); clear hm3; have V3 : Below wr.heap.size wr v3 := chain V2 hv3; have P := HP4.out.1.keep V3; have Q := HP4.out.2.keep V3)))
        all_goals
          go_wp2
          go_ret
          exact ⟨rfl, chain HBw.out V3⟩

end Go.Proofs.Ytachkoledebanaa
