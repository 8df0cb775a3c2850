/-
  FnText: at whatever bytes: true.
-/
import Derived.Test.YtachkoledebanaaGreatDoorAn2
import Derived.Test.YtachkoledebanaaGreatDoorDoc4
import Derived.Test.YtachkoledebanaaGreatDoorWri2
import Derived.Test.YtachkoledebanaaGreatDoorRows3
import Derived.Test.YtachkoledebanaaGreatDoorEqEtc
import Derived.Test.YtachkoledebanaaGreatDoorBckEtc
namespace Go.Proofs.YtachkoledebanaaGreatDoor
open Go.RowKit

theorem drawn_small {k : Code} (h : Bytes k) : Small (drawn k) := by
  have := dN_bd h
  exact ⟨by show dN k ≤ _; omega, by show dN k ≤ _; omega, by show dN k ≤ _; omega, by show dN k ≤ _; omega, fun i _ => by show 4 ≤ _; omega⟩

set_option maxHeartbeats 8000000 in
theorem lawText (ca : Option Addr) (cc : Nat) (k : Code) (w : World) (hk : Bytes k) (h : CodeAt w ca k) (hn63 : k.n ≤ 9223372036854775807) (L : Laid w) (hnm : Names w) :
    Calls Tryz.prog 3 #[.slice ca k.n cc] w fun e w' => e = .returned (.bool true) ∧ Below w.heap.size w w' := by
  have HK : Hid (Bytes k) := hk
  have HH : Hid (CodeAt w ca k) := h
  have HL : Hid (Laid w) := L
  have HNM : Hid (Names w) := hnm
  have HRT : Hid (Right (drawn k)) := drawn_right hk
  have HSM : Hid (Small (drawn k)) := drawn_small hk
  clear h hk L hnm
  go_enter Tryz.func3, Tryz.ntmps3
  by_cases hn : k.n ≤ 1048576
  case neg =>
    have z : decide ((1048576 : Int) < (k.n : Int)) = true := by simp; omega
    go_wp2
    go_ret
    exact ⟨rfl, Below.refl _ _⟩
  go_wp2_with fail
  refine (rows_any ca cc k w hn HK.out HH.out).mono ?_
  rintro e w1 ⟨⟨a1, a2, a3, a4, c1, c2, c3, c4, bI, rfl, hM1⟩, hb1⟩
  have hbk := Blk.new w1 #[.slice a1 (drawn k).nN c1, .slice a2 (drawn k).nF c2, .slice a3 (drawn k).nO c3, .slice a4 (drawn k).nW c4] 27
  have hal : Below w1.heap.size w1 (w1.alloc (.cells #[.slice a1 (drawn k).nN c1, .slice a2 (drawn k).nF c2, .slice a3 (drawn k).nO c3, .slice a4 (drawn k).nW c4] 27)) := (Below.refl _ _).alloc (Nat.le_refl _) _
  have hA := (hM1.at (fun i _ => rfl)).keep hal
  have hbw := chain hb1 hal
  have hwr := implWriteRow_any a1 a2 a3 a4 c1 c2 c3 c4 _ _ (drawn k) _ HSM.out hA (HL.out.keep hbw).tab
  have HBK : Hid _ := hbk
  have HA : Hid _ := hA
  have HBW : Hid _ := hbw
  have x0 := hbk.cell 0
  have x1 := hbk.cell 1
  have x2 := hbk.cell 2
  have x3 := hbk.cell 3
  simp only [List.getElem?_toArray, List.getElem?_cons_succ, List.getElem?_cons_zero] at x0 x1 x2 x3
  clear hM1 hal hb1 hbk hA hbw
  go_wp2_with fail
  generalize (w1.alloc (.cells #[.slice a1 (drawn k).nN c1, .slice a2 (drawn k).nF c2, .slice a3 (drawn k).nO c3, .slice a4 (drawn k).nW c4] 27)) = W at *
  refine hwr.mono ?_
  rintro e w2 ⟨⟨xs, hx, rfl⟩, hb2⟩
  have hxe : xs = rowTxt (drawn k) (drawn k).nN := by
    rcases hx with ⟨_, e⟩ | ⟨e, _⟩
    · exact e
    · exact absurd HRT.out e
  have hxl : xs.length ≤ 10000 := by
    have h1 := rowTxt_len HRT.out (drawn k).nN (Nat.le_refl _)
    have h2 := HRT.out.s.nN
    rw [hxe]
    omega
  have HX : Hid (IsText (drawn k) xs ∧ xs = rowTxt (drawn k) (drawn k).nN) := ⟨hx, hxe⟩
  have HB2 : Hid (Below w.heap.size w w2) := chain HBW.out hb2
  have hrd := implReadRow_any xs w2 (HL.out.keep HB2.out) (by omega)
  have HBK2 : Hid (Blk w2 w1.heap.size #[.slice a1 (drawn k).nN c1, .slice a2 (drawn k).nF c2, .slice a3 (drawn k).nO c3, .slice a4 (drawn k).nW c4] 27) := Blk.keep HBK.out hb2
  have HA2 : Hid (RowAt w2 a1 a2 a3 a4 _ _ (drawn k)) := RowAt.keep HA.out hb2
  clear hwr hx hxe hb2 x0 x1 x2 x3
  go_wp2_with fail
  refine hrd.mono ?_
  rintro e w3 ⟨⟨c, l, gs, bJ, cJ, s1, s2, s3, s4, k1, k2, k3, k4, ht, rfl, how⟩, hb3⟩
  obtain ⟨rfl, rfl, hge⟩ : c = 0 ∧ l = 0 ∧ gs = sgs (drawn k) (drawn k).nN := by
    have h1 := told_back HRT.out
    rw [← HX.out.2] at h1
    exact ht.one h1
  clear hrd ht
  have hgl : gs.length = (drawn k).nN := by rw [hge, sgs_len]
  have e2 : (drawn k).nF = (drawn k).nN := HRT.out.s.nF
  have e3 : (drawn k).nO = (drawn k).nN := HRT.out.s.nO
  have e4 : (drawn k).nW = (drawn k).nN := HRT.out.s.nW
  have hR3 : RowAt w3 s1 s2 s3 s4 (fun j => some ⟨bJ j, 0, none⟩) cJ (drawn k) := by
    have h1 := how.at
    rw [hge] at h1
    exact RowAt.back HRT.out h1
  rw [hgl]
  have hal : Below w3.heap.size w3 (w3.alloc (.cells #[.int .i64 0, .int .i64 0, .slice s1 (drawn k).nN k1, .slice s2 (drawn k).nN k2, .slice s3 (drawn k).nN k3, .slice s4 (drawn k).nN k4] 31)) := (Below.refl _ _).alloc (Nat.le_refl _) _
  have HBT : Hid (Blk (w3.alloc (.cells #[.int .i64 0, .int .i64 0, .slice s1 (drawn k).nN k1, .slice s2 (drawn k).nN k2, .slice s3 (drawn k).nN k3, .slice s4 (drawn k).nN k4] 31)) w3.heap.size #[.int .i64 0, .int .i64 0, .slice s1 (drawn k).nN k1, .slice s2 (drawn k).nN k2, .slice s3 (drawn k).nN k3, .slice s4 (drawn k).nN k4] 31) := Blk.new w3 _ _
  have HR3 : Hid (RowAt (w3.alloc (.cells #[.int .i64 0, .int .i64 0, .slice s1 (drawn k).nN k1, .slice s2 (drawn k).nN k2, .slice s3 (drawn k).nN k3, .slice s4 (drawn k).nN k4] 31)) s1 s2 s3 s4 (fun j => some ⟨bJ j, 0, none⟩) cJ (drawn k)) := hR3.keep hal
  have HBK3 : Hid (Blk (w3.alloc (.cells #[.int .i64 0, .int .i64 0, .slice s1 (drawn k).nN k1, .slice s2 (drawn k).nN k2, .slice s3 (drawn k).nN k3, .slice s4 (drawn k).nN k4] 31)) w1.heap.size #[.slice a1 (drawn k).nN c1, .slice a2 (drawn k).nF c2, .slice a3 (drawn k).nO c3, .slice a4 (drawn k).nW c4] 27) := (HBK2.out.keep hb3).keep hal
  have HA3 : Hid (RowAt (w3.alloc (.cells #[.int .i64 0, .int .i64 0, .slice s1 (drawn k).nN k1, .slice s2 (drawn k).nN k2, .slice s3 (drawn k).nN k3, .slice s4 (drawn k).nN k4] 31)) a1 a2 a3 a4 _ _ (drawn k)) := (HA2.out.keep hb3).keep hal
  have HB3 : Hid (Below w.heap.size w (w3.alloc (.cells #[.int .i64 0, .int .i64 0, .slice s1 (drawn k).nN k1, .slice s2 (drawn k).nN k2, .slice s3 (drawn k).nN k3, .slice s4 (drawn k).nN k4] 31))) := chain (chain HB2.out hb3) hal
  have x0 := HBK3.out.cell 0
  have x1 := HBK3.out.cell 1
  have x2 := HBK3.out.cell 2
  have x3 := HBK3.out.cell 3
  simp only [List.getElem?_toArray, List.getElem?_cons_succ, List.getElem?_cons_zero] at x0 x1 x2 x3
  have hsw := specWriteRow_any a1 a2 a3 a4 c1 c2 c3 c4 _ _ (drawn k) _ HSM.out HA3.out
  have HE : Hid ((drawn k).nF = (drawn k).nN ∧ (drawn k).nO = (drawn k).nN ∧ (drawn k).nW = (drawn k).nN) := ⟨e2, e3, e4⟩
  clear how hge hgl hal hR3 hb3 e2 e3 e4
  go_wp2_with fail
  generalize (w3.alloc (.cells #[.int .i64 0, .int .i64 0, .slice s1 (drawn k).nN k1, .slice s2 (drawn k).nN k2, .slice s3 (drawn k).nN k3, .slice s4 (drawn k).nN k4] 31)) = W3 at *
  refine hsw.mono ?_
  rintro e w4 ⟨⟨ys, hy, rfl⟩, hb4⟩
  obtain rfl := hy.one HX.out.1
  have HB4 : Hid (Below w.heap.size w w4) := chain HB3.out hb4
  have hbt := HBT.out.keep hb4
  have hbk := HBK3.out.keep hb4
  have t0 := hbt.cell 0
  have t2 := hbt.cell 2
  have t3 := hbt.cell 3
  have t4 := hbt.cell 4
  have t5 := hbt.cell 5
  have y0 := hbk.cell 0
  have y1 := hbk.cell 1
  have y2 := hbk.cell 2
  have y3 := hbk.cell 3
  simp only [List.getElem?_toArray, List.getElem?_cons_succ, List.getElem?_cons_zero] at t0 t2 t3 t4 t5 y0 y1 y2 y3
  have ze : ((bs ys).toList == (bs ys).toList) = true := by simp
  have hwr := wRow_same s1 s2 s3 s4 a1 a2 a3 a4 k1 k2 k3 k4 c1 c2 c3 c4 _ _ _ _ (drawn k) w4 HSM.out (HR3.out.keep hb4) (HA3.out.keep hb4)
  rw [HE.out.1, HE.out.2.1, HE.out.2.2] at hwr
  rw [HE.out.1] at y1
  rw [HE.out.2.1] at y2
  rw [HE.out.2.2] at y3
  clear hsw hy hb4 hbt hbk x0 x1 x2 x3
  go_wp2_with fail
  refine hwr.mono ?_
  rintro e w5 ⟨rfl, hb5⟩
  have HB5 : Hid (Below w.heap.size w w5) := chain HB4.out hb5
  have hia := implAnswer_any ys w5 (HL.out.keep HB5.out) (HNM.out.keep HB5.out) (by omega)
  clear hwr hb5 t0 t2 t3 t4 t5 y0 y1 y2 y3
  go_wp2_with fail
  refine hia.mono ?_
  rintro e w6 ⟨⟨zs, hz, rfl⟩, hb6⟩
  have HB6 : Hid (Below w.heap.size w w6) := chain HB5.out hb6
  have hsa := specAnswer_any ys w6 (by omega)
  have HZ : Hid (IsAnswer ys zs) := hz
  clear hia hb6 hz
  go_wp2_with fail
  refine hsa.mono ?_
  rintro e w7 ⟨⟨us, hu, rfl⟩, hb7⟩
  obtain rfl := HZ.out.one hu
  have hB7 := chain HB6.out hb7
  have ze2 : ((bs zs).toList == (bs zs).toList) = true := by simp
  clear hsa hu hb7
  go_wp2
  go_ret
  exact ⟨rfl, hB7⟩

end Go.Proofs.YtachkoledebanaaGreatDoor
