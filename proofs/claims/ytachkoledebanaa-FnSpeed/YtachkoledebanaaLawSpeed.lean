/-
  FnSpeed: at whatever bytes: true.
-/
import Derived.Test.YtachkoledebanaaMkC
import Derived.Test.YtachkoledebanaaSpd
import Derived.Test.YtachkoledebanaaSpd2
import Derived.Test.YtachkoledebanaaWS
import Derived.Deep.DeepCutAuto
namespace Go.Proofs.Ytachkoledebanaa
open Go.RowKit

theorem drawn_small3 {k : Code} (h : Bytes k) : Small (drawn k) := by
  have := dN_bd h
  exact ⟨by show dN k ≤ _; omega, by show dN k ≤ _; omega, by show dN k ≤ _; omega, by show dN k ≤ _; omega, fun i _ => by show 4 ≤ _; omega⟩

theorem shows_lst3 {d : RD} {xs : List Int} (hR : Right d) (h : IsShows d xs) : ∃ wn sh, Least d d.nN wn sh ∧ xs = lst sh d.nN := by
  rcases h with ⟨_, wn, sh, hl, rfl⟩ | ⟨h, _⟩
  · exact ⟨wn, sh, hl, rfl⟩
  · exact absurd hR h
theorem ret_lst3 {e : Ending} {lo n : Nat} {w' : World} {f : Nat → Int} (h : RetInts e lo w' (lst f n)) : ∃ ao cap, e = .returned (.slice ao n cap) ∧ OwnS w' lo w'.heap.size ao n (fun k => .int .i64 (f k)) := by
  obtain ⟨ao, cap, he, ho⟩ := h
  rw [lst_len] at he ho
  exact ⟨ao, cap, he, ho.congr fun k hk => by rw [lst_get f n k hk]⟩

theorem tri_nn (q : Nat) : 0 ≤ tri q := by
  induction q with
  | zero => simp [tri]
  | succ q ih => unfold tri; omega

set_option maxHeartbeats 1000000 in
theorem wSlow_any (v b : Int) (h0 : 0 ≤ v) (h1 : v ≤ 10000) (hb : 10 ≤ b) (hb1 : b ≤ 1000) (w : World) :
    Calls Try.prog 33 #[.int .i64 v, .int .i64 b] w fun e w' => e = .returned (.int .i64 (slow b v)) ∧ w' = w := by
  have hq0 : 0 ≤ v / b := Int.ediv_nonneg h0 (by omega)
  have hq1 : v / b ≤ 1000 := by
    have := Int.ediv_le_ediv (c := b) (by omega) h1
    have h2 : (10000 : Int) / b ≤ 1000 := by
      have h3 : 10000 / b * b ≤ 10000 := Int.ediv_mul_le _ (by omega)
      have h4 : 10000 / b * 10 ≤ 10000 / b * b := Int.mul_le_mul_of_nonneg_left hb (Int.ediv_nonneg (by omega) (by omega))
      omega
    omega
  have hbq : 0 ≤ b * (v / b) ∧ b * (v / b) ≤ 10000 := by
    have h3 : v / b * b ≤ v := Int.ediv_mul_le _ (by omega)
    rw [Int.mul_comm] at h3
    exact ⟨Int.mul_nonneg (by omega) hq0, by omega⟩
  have hr := Int.emod_nonneg v (show b ≠ 0 by omega)
  have hr1 := Int.emod_lt_of_pos v (show 0 < b by omega)
  obtain ⟨q, hq⟩ : ∃ q : Nat, v / b = q := ⟨(v / b).toNat, by omega⟩
  have htri : b * (v / b) * (v / b - 1) = b * tri q * 2 := by
    have ht := two_tri q
    rw [hq, Int.mul_assoc, Int.mul_assoc]
    congr 1
    rw [Int.mul_sub, Int.mul_one]
    omega
  have hm2 : 0 ≤ b * (v / b) * (v / b - 1) ∧ b * (v / b) * (v / b - 1) ≤ 10000000 := by
    constructor
    · rw [htri]
      exact Int.mul_nonneg (Int.mul_nonneg (by omega) (tri_nn q)) (by omega)
    · by_cases e : v / b = 0
      · rw [e]; omega
      · have := Int.mul_le_mul hbq.2 (show v / b - 1 ≤ 1000 by omega) (by omega) (by omega)
        omega
  have hm1 : 0 ≤ v / b * (v % b) ∧ v / b * (v % b) ≤ 1000000 := ⟨Int.mul_nonneg hq0 hr, by have := Int.mul_le_mul hq1 (show v % b ≤ 1000 by omega) hr (by omega); omega⟩
  have HC : Hid (v / b * (v % b) + b * (v / b) * (v / b - 1) / 2 = slow b v) := by
    show _ = _
    unfold slow
    rw [htri, Int.mul_ediv_cancel _ (by omega), hq, Int.toNat_natCast]
  have ht : v.tdiv b = v / b := Int.tdiv_eq_ediv_of_nonneg h0
  have htm : v.tmod b = v % b := Int.tmod_eq_emod_of_nonneg h0
  have ht2 : (b * (v / b) * (v / b - 1)).tdiv 2 = b * (v / b) * (v / b - 1) / 2 := Int.tdiv_eq_ediv_of_nonneg hm2.1
  clear htri hq
  go_enter Try.func33, Try.ntmps33
  go_wp2
  go_ret
  exact ⟨by rw [← HC.out]; rfl, rfl⟩

set_option maxHeartbeats 8000000 in
set_option maxRecDepth 100000 in
theorem lawSpeed (ca : Option Addr) (cc : Nat) (k : Code) (ma : Option Addr) (mc : Nat) (m : Code) (w : World) (hk : Bytes k) (h : CodeAt w ca k) (hn63 : k.n ≤ 9223372036854775807) (hm : Bytes m) (g : CodeAt w ma m) (hm63 : m.n ≤ 9223372036854775807) :
    Calls Try.prog 7 #[.slice ca k.n cc, .slice ma m.n mc] w fun e w' => e = .returned (.bool true) ∧ Below w.heap.size w w' := by
  have HK : Hid (Bytes k ∧ Bytes m) := ⟨hk, hm⟩
  have HH : Hid (CodeAt w ca k ∧ CodeAt w ma m) := ⟨h, g⟩
  clear h hk hm g
  go_enter Try.func7, Try.ntmps7
  by_cases hn : k.n ≤ 1048576
  case neg =>
    have z : decide ((1048576 : Int) < (k.n : Int)) = true := by simp; omega
    go_wp2
    go_ret
    exact ⟨rfl, Below.refl _ _⟩
  have z : decide ((1048576 : Int) < (k.n : Int)) = false := by simp; omega
  by_cases hn2 : m.n ≤ 1048576
  case neg =>
    have z2 : decide ((1048576 : Int) < (m.n : Int)) = true := by simp; omega
    go_wp2
    go_ret
    exact ⟨rfl, Below.refl _ _⟩
  have z2 : decide ((1048576 : Int) < (m.n : Int)) = false := by simp; omega
  go_wp2_with fail
  refine (rows_any ca cc k w hn HK.out.1 HH.out.1).mono ?_
  rintro e w1 ⟨⟨a1, a2, a3, a4, c1, c2, c3, c4, bI, rfl, hM1⟩, hb1⟩
  have P1 := Blk.new w1 #[.slice a1 (drawn k).nN c1, .slice a2 (drawn k).nF c2, .slice a3 (drawn k).nO c3, .slice a4 (drawn k).nW c4] 27
  have bW1 : Below w1.heap.size w1 (w1.alloc (.cells #[.slice a1 (drawn k).nN c1, .slice a2 (drawn k).nF c2, .slice a3 (drawn k).nO c3, .slice a4 (drawn k).nW c4] 27)) := (Below.refl _ _).alloc (Nat.le_refl _) _
  have HA1 : Hid (RowAt (w1.alloc (.cells #[.slice a1 (drawn k).nN c1, .slice a2 (drawn k).nF c2, .slice a3 (drawn k).nO c3, .slice a4 (drawn k).nW c4] 27)) a1 a2 a3 a4 (fun j => some ⟨bI j, 0, none⟩) (fun _ => 4) (drawn k)) := (hM1.at (fun i _ => rfl)).keep bW1
  have B1 := chain hb1 bW1
  have HSM : Hid (Small (drawn k) ∧ Right (drawn k)) := ⟨drawn_small3 HK.out.1, drawn_right HK.out.1⟩
  have hdn : 1 ≤ (drawn k).nN ∧ (drawn k).nN ≤ 9 := dN_bd HK.out.1
  generalize drawn k = d at *
  clear hM1 hb1 bW1 z z2
  go_wp2_with fail
  generalize (w1.alloc (.cells #[.slice a1 d.nN c1, .slice a2 d.nF c2, .slice a3 d.nO c3, .slice a4 d.nW c4] 27)) = W1 at *
  have x0 := P1.cell 0
  simp at x0
  have HC1 : Hid (CodeAt W1 ma m) := HH.out.2.keep B1
  go_quiet ((go_at_call 22; exact Calls.quiet_of ((wByte_any ma mc m 0 _ hn2 (by omega) HK.out.2 (HC1.out.keep (below_drewN (Below.refl _ _) _))).mono fun e w' hh => ⟨hh.1, 0, hh.2⟩)))
  have hy := wb_bd HK.out.2 0
  obtain ⟨S, hS⟩ : ∃ S : Nat, (wb m 0).tmod (d.nN : Int) = S := ⟨((wb m 0).tmod (d.nN : Int)).toNat, by have := Int.tmod_nonneg (d.nN : Int) hy.1; omega⟩
  have hSN : S < d.nN := by
    have h1 := Int.tmod_eq_emod_of_nonneg (b := (d.nN : Int)) hy.1
    have h2 := Int.emod_lt_of_pos (wb m 0) (show (0 : Int) < d.nN by omega)
    omega
  rw [hS]
  have BD : Below W1.heap.size W1 (W1.drewN nq) := below_drewN (Below.refl _ _) _
  have PD := P1.keep BD
  have HA2 : Hid (RowAt (W1.drewN nq) a1 a2 a3 a4 (fun j => some ⟨bI j, 0, none⟩) (fun _ => 4) d) := HA1.out.keep BD
  have HC2 : Hid (CodeAt (W1.drewN nq) ma m) := HC1.out.keep BD
  have B2 := chain B1 BD
  clear hy hS x0 HA1 HC1 P1 B1 BD
  generalize (W1.drewN nq) = W2 at *
  go_wp2_with fail
  refine (wByte_any ma mc m 1 W2 hn2 (by omega) HK.out.2 HC2.out).mono ?_
  rintro e w3 ⟨rfl, hw3⟩
  replace hw3 := hw3.symm
  subst hw3
  have hy := wb_bd HK.out.2 1
  obtain ⟨y1, hy1⟩ : ∃ y1, y1 = wb m 1 := ⟨_, rfl⟩
  rw [← hy1] at hy ⊢
  clear hy1
  go_wp2_with fail
  refine (wByte_any ma mc m 2 W2 hn2 (by omega) HK.out.2 HC2.out).mono ?_
  rintro e w3 ⟨rfl, hw3⟩
  replace hw3 := hw3.symm
  subst hw3
  have hy2 := wb_bd HK.out.2 2
  obtain ⟨y2, hy2'⟩ : ∃ y2, y2 = wb m 2 := ⟨_, rfl⟩
  rw [← hy2'] at hy2 ⊢
  clear hy2'
  have x0 := PD.cell 0
  have x1 := PD.cell 1
  have x2 := PD.cell 2
  have x3 := PD.cell 3
  simp at x0 x1 x2 x3
  go_wp2_with fail
  obtain ⟨b, hb⟩ : ∃ b, b = 10 + y1 := ⟨_, rfl⟩
  obtain ⟨de, hde⟩ : ∃ de, de = y2 % 5 := ⟨_, rfl⟩
  have hb0 : 10 ≤ b := by omega
  have hb1 : b ≤ 1000 := by omega
  have hd0 : 0 ≤ de := by omega
  have hd1 : de ≤ 20 := by omega
  rw [← hb, ← hde]
  clear hb hde hy hy2
  have HOK : Hid (SpOk d S b de) := ⟨HSM.out.2, by omega, by omega, hb0, hb1, hd0, hd1⟩
  refine (implSpeed_any a1 a2 a3 a4 c1 c2 c3 c4 _ _ d S b de W2 HSM.out.1 HA2.out).mono ?_
  rintro e w4 ⟨⟨v, hv, rfl⟩, hb4⟩
  have HV : Hid (IsSpeed d S b de v) := hv
  have P4 := PD.keep hb4
  have HA4 : Hid (RowAt w4 a1 a2 a3 a4 (fun j => some ⟨bI j, 0, none⟩) (fun _ => 4) d) := HA2.out.keep hb4
  have B4 := chain B2 hb4
  clear x0 x1 x2 x3 PD HA2 HC2 B2 hb4 hv
  have x0 := P4.cell 0
  have x1 := P4.cell 1
  have x2 := P4.cell 2
  have x3 := P4.cell 3
  simp at x0 x1 x2 x3
  go_wp2_with fail
  refine (specSpeed_any a1 a2 a3 a4 c1 c2 c3 c4 _ _ d S b de w4 HSM.out.1 HA4.out).mono ?_
  rintro e w5 ⟨⟨v', hv', rfl⟩, hb5⟩
  have hx5 : (v != v') = false := by rw [bne_eq_false_iff_eq]; exact HV.out.one hv'
  have HX : Hid (∃ wn sh, Least d d.nN wn sh ∧ ((sh S ≤ 0 ∧ v = 0) ∨ (0 < sh S ∧ Best b de (rm d (sh S).toNat S) v))) := by
    rcases HV.out with ⟨_, wn, sh, hl, hc⟩ | ⟨hc, _⟩
    · rw [Int.toNat_natCast] at hc
      exact ⟨wn, sh, hl, hc⟩
    · exact absurd HOK.out hc
  have hv0 : 0 ≤ v ∧ v ≤ 10000 := by
    obtain ⟨wn, sh, _, ⟨_, rfl⟩ | ⟨_, hB⟩⟩ := HX.out
    · omega
    · exact ⟨hB.1, hB.2.1⟩
  have z5 : decide (v < 0) = false := by simp; omega
  have P5 := P4.keep hb5
  have HA5 : Hid (RowAt w5 a1 a2 a3 a4 (fun j => some ⟨bI j, 0, none⟩) (fun _ => 4) d) := HA4.out.keep hb5
  have B5 := chain B4 hb5
  clear x0 x1 x2 x3 P4 HA4 B4 hb5 hv'
  have x0 := P5.cell 0
  have x1 := P5.cell 1
  have x2 := P5.cell 2
  have x3 := P5.cell 3
  simp at x0 x1 x2 x3
  go_wp2_with fail
  refine (specRoom_any a1 a2 a3 a4 c1 c2 c3 c4 _ _ d S w5 HSM.out.1 HA5.out).mono ?_
  rintro e w6 ⟨⟨room, hroom, rfl⟩, hb6⟩
  have HRM : Hid (IsRoom d S room) := hroom
  have P6 := P5.keep hb6
  have HA6 : Hid (RowAt w6 a1 a2 a3 a4 (fun j => some ⟨bI j, 0, none⟩) (fun _ => 4) d) := HA5.out.keep hb6
  have B6 := chain B5 hb6
  clear x0 x1 x2 x3 P5 HA5 B5 hb6 hroom hx5 z5
  have x0 := P6.cell 0
  have x1 := P6.cell 1
  have x2 := P6.cell 2
  have x3 := P6.cell 3
  simp at x0 x1 x2 x3
  go_wp2_with fail
  refine (specShows_any a1 a2 a3 a4 c1 c2 c3 c4 _ _ d w6 HSM.out.1 HA6.out).mono ?_
  rintro e w7 ⟨⟨xs, hxs, hret⟩, hb7⟩
  obtain ⟨wn, sh, hl, rfl⟩ := shows_lst3 HSM.out.2 hxs
  obtain ⟨sa, cA, rfl, hoA⟩ := ret_lst3 hret
  obtain ⟨bs, os, rfl, hcs⟩ := hoA.sl S hSN
  replace hcs : w7.cell? ⟨bs, os + S, none⟩ = some (.int .i64 (sh S)) := hcs
  have HY : Hid ((sh S ≤ 0 ∧ v = 0) ∨ (0 < sh S ∧ Best b de room v)) := by
    obtain ⟨wn0, sh0, hl0, hc⟩ := HX.out
    have e1 := (hl0.one HSM.out.2.inside hl).2 S hSN
    have e2 : room = rm d (sh S).toNat S := HRM.out.one (Or.inl ⟨HSM.out.2, by omega, by omega, wn, sh, hl, by simp⟩)
    rw [e1, ← e2] at hc
    exact hc
  have hrb : 0 ≤ room ∧ room ≤ 1000000000 := by
    have h1 : room = rm d (sh S).toNat S := HRM.out.one (Or.inl ⟨HSM.out.2, by omega, by omega, wn, sh, hl, by simp⟩)
    have h2 := rm_bd HSM.out.2 (sh S).toNat S (by omega) (by omega)
    have h3 := (hl.bd HSM.out.2.inside S hSN).2.2
    omega
  have B7 : Below w.heap.size w w7 := chain B6 hb7
  clear x0 x1 x2 x3 P6 HA6 B6 hb7 hxs hret hoA hl HX HRM HV
  by_cases hst : sh S ≤ 0
  · have hv00 : v = 0 := by
      rcases HY.out with h | h
      · exact h.2
      · omega
    have z7 : (v == 0) = true := by rw [beq_iff_eq]; exact hv00
    clear hv00
    go_wp2
    go_ret
    exact ⟨rfl, B7⟩
  have HB : Hid (Best b de room v) := by
    rcases HY.out with h | h
    · exact absurd h.1 hst
    · exact h.2
  have hws := wSlow_any v b hv0.1 hv0.2 hb0 hb1 w7
  have hc1 := HB.out.2.2.1 v hv0.1 (Int.le_refl _)
  have hsb := slow_bd hb0 v.toNat v hv0.1 (by omega) hv0.2
  have hm1 : 0 ≤ de * v ∧ de * v ≤ 200000 := ⟨Int.mul_nonneg hd0 hv0.1, by have := Int.mul_le_mul hd1 hv0.2 hv0.1 (by omega); omega⟩
  have z8 : decide (slow b v + de * v ≤ room) = true := by
    unfold cost at hc1
    simp
    omega
  clear hc1
  go_wp2_with fail
  refine hws.mono ?_
  rintro e w8 ⟨rfl, hw8⟩
  replace hw8 := hw8.symm
  subst hw8
  clear hws
  by_cases hmx : v = 10000
  · have z9 : (v == 10000) = true := by rw [beq_iff_eq]; exact hmx
    clear hmx
    go_wp2
    go_ret
    exact ⟨rfl, B7⟩
  have z9 : (v == 10000) = false := by rw [beq_eq_false_iff_ne]; exact hmx
  have hws := wSlow_any (v + 1) b (by omega) (by omega) hb0 hb1 w7
  have hc2 : room < cost b de (v + 1) := by
    rcases HB.out.2.2.2 with h | h
    · exact absurd h hmx
    · exact h
  have hsb2 := slow_bd hb0 (v + 1).toNat (v + 1) (by omega) (by omega) (by omega)
  have hm2 : 0 ≤ de * (v + 1) ∧ de * (v + 1) ≤ 200000 := ⟨Int.mul_nonneg hd0 (by omega), by have := Int.mul_le_mul hd1 (show v + 1 ≤ 10000 by omega) (by omega) (by omega); omega⟩
  have z10 : decide (room < slow b (v + 1) + de * (v + 1)) = true := by
    unfold cost at hc2
    simp
    omega
  clear hc2
  go_wp2_with fail
  refine hws.mono ?_
  rintro e w8 ⟨rfl, hw8⟩
  replace hw8 := hw8.symm
  subst hw8
  clear hws
  go_wp2
  go_ret
  exact ⟨rfl, B7⟩

end Go.Proofs.Ytachkoledebanaa
