/-
  Speed: the program's: a closed sum; a search by halves with a function value.
-/
import Derived.Test.YtachkoledebanaaRm3
import Derived.Test.YtachkoledebanaaSpdD
namespace Go.Proofs.Ytachkoledebanaa
open Go.RowKit

theorem two_tri : ∀ q : Nat, 2 * tri q = (q : Int) * q - q
  | 0 => by simp [tri]
  | q + 1 => by
    have ih := two_tri q
    unfold tri
    push_cast
    simp only [Int.mul_add, Int.add_mul, Int.mul_one, Int.one_mul]
    omega

/-- the closed sum -/
theorem closed_sum {b v de : Int} (hb : 10 ≤ b) (h0 : 0 ≤ v) : (de + v / b) * v - b * (v / b) * (v / b + 1) / 2 = cost b de v := by
  unfold cost slow
  have hv := Int.mul_ediv_add_emod v b
  have hq0 : 0 ≤ v / b := Int.ediv_nonneg h0 (by omega)
  obtain ⟨q, hq⟩ : ∃ q : Nat, v / b = q := ⟨(v / b).toNat, by omega⟩
  rw [hq] at hv ⊢
  rw [Int.toNat_natCast]
  have ht := two_tri q
  have h1 : b * (q : Int) * ((q : Int) + 1) = b * (tri q + q) * 2 := by
    have : (q : Int) * ((q : Int) + 1) = (tri q + q) * 2 := by
      rw [Int.mul_add, Int.mul_one]; omega
    rw [Int.mul_assoc, this, Int.mul_assoc]
  rw [h1, Int.mul_ediv_cancel _ (by omega)]
  generalize v % b = r at *
  have h2 : (q : Int) * v = b * (q * q : Int) + q * r := by
    rw [← hv, Int.mul_add, Int.mul_left_comm]
  have h3 : b * (q * q : Int) = b * tri q + b * tri q + b * q := by
    rw [← Int.mul_add, ← Int.mul_add]
    congr 1
    omega
  rw [Int.add_mul, h2, h3, Int.mul_add]
  omega

theorem slow_mono {b : Int} (hb : 10 ≤ b) : ∀ (n : Nat) (u v : Int), 0 ≤ u → u ≤ v → v ≤ n → v ≤ 10000 → slow b u ≤ slow b v
  | 0, u, v, h0, h1, h2, _ => by
    obtain rfl : u = v := by omega
    exact Int.le_refl _
  | n + 1, u, v, h0, h1, h2, h3 => by
    by_cases e : u ≤ b
    · rw [slow_small h0 e (by omega)]
      exact (slow_bd hb v.toNat v (by omega) (by omega) h3).1
    · rw [slow_step (v := u) (by omega) (by omega), slow_step (v := v) (by omega) (by omega)]
      have ih := slow_mono hb n (u - b) (v - b) (by omega) (by omega) (by omega) (by omega)
      omega
theorem cost_mono {b de u v : Int} (hb : 10 ≤ b) (hd : 0 ≤ de) (h0 : 0 ≤ u) (h1 : u ≤ v) (h3 : v ≤ 10000) : cost b de u ≤ cost b de v := by
  unfold cost
  have h4 := slow_mono hb v.toNat u v h0 h1 (by omega) h3
  have h5 := Int.mul_le_mul_of_nonneg_left h1 hd
  omega
theorem cost_bd {b de v : Int} (hb : 10 ≤ b) (hd : 0 ≤ de) (hd1 : de ≤ 20) (h0 : 0 ≤ v) (h3 : v ≤ 10000) : 0 ≤ cost b de v ∧ cost b de v ≤ 100000000 := by
  unfold cost
  have h4 := slow_bd hb v.toNat v h0 (by omega) h3
  have h5 := Int.mul_nonneg hd h0
  have h6 := Int.mul_le_mul hd1 h3 h0 (by omega)
  omega

set_option maxHeartbeats 1000000 in
theorem wayToStop_any (v b de : Int) (h0 : 0 ≤ v) (h1 : v ≤ 10000) (hb : 10 ≤ b) (hb1 : b ≤ 1000) (hd : 0 ≤ de) (hd1 : de ≤ 20) (w : World) :
    Calls Try.prog 61 #[.int .i64 v, .int .i64 b, .int .i64 de] w fun e w' => e = .returned (.int .i64 (cost b de v)) ∧ w' = w := by
  have hq0 : 0 ≤ v / b := Int.ediv_nonneg h0 (by omega)
  have hq1 : v / b ≤ 1000 := by
    have := Int.ediv_le_ediv (c := b) (by omega) h1
    have h2 : (10000 : Int) / b ≤ 1000 := by
      have h3 : 10000 / b * b ≤ 10000 := Int.ediv_mul_le _ (by omega)
      have h4 : 10000 / b * 10 ≤ 10000 / b * b := Int.mul_le_mul_of_nonneg_left hb (Int.ediv_nonneg (by omega) (by omega))
      omega
    omega
  have hbq : 0 ≤ b * (v / b) ∧ b * (v / b) ≤ 10000 := by
    have h3 : v / b * b ≤ v := Int.ediv_mul_le _ (by omega)
    rw [Int.mul_comm] at h3
    exact ⟨Int.mul_nonneg (by omega) hq0, by omega⟩
  have HC : Hid ((de + v / b) * v - b * (v / b) * (v / b + 1) / 2 = cost b de v) := closed_sum hb h0
  have hm1 : 0 ≤ (de + v / b) * v ∧ (de + v / b) * v ≤ 10200000 := ⟨Int.mul_nonneg (by omega) h0, by have := Int.mul_le_mul (show de + v / b ≤ 1020 by omega) h1 h0 (by omega); omega⟩
  have hm2 : 0 ≤ b * (v / b) * (v / b + 1) ∧ b * (v / b) * (v / b + 1) ≤ 10010000 := ⟨Int.mul_nonneg hbq.1 (by omega), by have := Int.mul_le_mul hbq.2 (show v / b + 1 ≤ 1001 by omega) (by omega) (by omega); omega⟩
  have ht : v.tdiv b = v / b := Int.tdiv_eq_ediv_of_nonneg h0
  have ht2 : (b * (v / b) * (v / b + 1)).tdiv 2 = b * (v / b) * (v / b + 1) / 2 := Int.tdiv_eq_ediv_of_nonneg hm2.1
  go_enter Try.func61, Try.ntmps61
  go_wp2
  go_ret
  exact ⟨by rw [← HC.out]; rfl, rfl⟩

set_option maxHeartbeats 1000000 in
/-- the test that the search is given -/
theorem fits_any (pb pd pr : Nat) (v b de room : Int) (h0 : 0 ≤ v) (h1 : v ≤ 10000) (hb : 10 ≤ b) (hb1 : b ≤ 1000) (hd : 0 ≤ de) (hd1 : de ≤ 20) (w : World)
    (k1 : w.cell? ⟨pb, 0, none⟩ = some (.int .i64 b)) (k2 : w.cell? ⟨pd, 0, none⟩ = some (.int .i64 de)) (k3 : w.cell? ⟨pr, 0, none⟩ = some (.int .i64 room)) :
    Calls Try.prog 60 #[.int .i64 v, .pointer (some ⟨pb, 0, none⟩), .pointer (some ⟨pd, 0, none⟩), .pointer (some ⟨pr, 0, none⟩)] w fun e w' =>
      e = .returned (.bool (decide (cost b de v ≤ room))) ∧ Below w.heap.size w w' := by
  have hc := cost_bd hb hd hd1 h0 h1
  go_enter Try.func60, Try.ntmps60
  go_wp2_with fail
  go_region_with (go_at_call 61; refine (wayToStop_any v b de h0 h1 hb hb1 hd hd1 _).mono ?_; rintro e w2 ⟨rfl, rfl⟩)
  all_goals
    go_wp2
    go_ret
    exact ⟨rfl, (Below.refl _ _).drew⟩

set_option maxHeartbeats 2000000 in
theorem greatestFit_any (pb pd pr : Nat) (b de room : Int) (hb : 10 ≤ b) (hb1 : b ≤ 1000) (hd : 0 ≤ de) (hd1 : de ≤ 20) (hr : 0 ≤ room) (w : World)
    (k1 : w.cell? ⟨pb, 0, none⟩ = some (.int .i64 b)) (k2 : w.cell? ⟨pd, 0, none⟩ = some (.int .i64 de)) (k3 : w.cell? ⟨pr, 0, none⟩ = some (.int .i64 room)) :
    Calls Try.prog 59 #[.int .i64 10000, .func (.func 60) #[] #[.pointer (some ⟨pb, 0, none⟩), .pointer (some ⟨pd, 0, none⟩), .pointer (some ⟨pr, 0, none⟩)]] w fun e w' =>
      (∃ r, Best b de room r ∧ e = .returned (.int .i64 r)) ∧ Below w.heap.size w w' := by
  have hc0 : cost b de 0 = 0 := by unfold cost; rw [slow_small (by omega) (by omega) (by omega)]; simp
  go_enter Try.func59, Try.ntmps59
  go_wp2
  go_loopw [0, 5] (fun m l wr => ∃ M L : Nat, m = .int .i64 M ∧ l = .int .i64 L ∧ L ≤ M ∧ M ≤ 10000 ∧ cost b de L ≤ room ∧ (M = 10000 ∨ room < cost b de (M + 1)) ∧ Below w.heap.size w wr) (fun m l _ => (intOf m).toNat - (intOf l).toNat)
  case atStart => exact ⟨10000, 0, rfl, rfl, by omega, by omega, by rw [show ((0 : Nat) : Int) = 0 from rfl, hc0]; exact hr, Or.inl rfl, Below.refl _ _⟩
  case round =>
    obtain ⟨M, L, rfl, rfl, q1, q2, q3, q4, hB⟩ := hrel
    have HL : Hid (cost b de L ≤ room) := q3
    have HM : Hid (M = 10000 ∨ room < cost b de (M + 1)) := q4
    clear q3 q4
    by_cases hlt : L < M
    · have hmid : ((L : Int) + M + 1) / 2 = ((L + M + 1) / 2 : Nat) := by omega
      have htd : ((L : Int) + M + 1).tdiv 2 = ((L + M + 1) / 2 : Nat) := by rw [Int.tdiv_eq_ediv_of_nonneg (by omega)]; exact hmid
      obtain ⟨I, hI⟩ : ∃ I : Nat, (L + M + 1) / 2 = I := ⟨_, rfl⟩
      have hI1 : L < I := by omega
      have hI2 : I ≤ M := by omega
      rw [hI] at hmid htd
      have h1 := (hB.cell (p := ⟨pb, 0, none⟩) (block_lt_of_cell k1)).trans k1
      have h2 := (hB.cell (p := ⟨pd, 0, none⟩) (block_lt_of_cell k2)).trans k2
      have h3 := (hB.cell (p := ⟨pr, 0, none⟩) (block_lt_of_cell k3)).trans k3
      have hf := fits_any pb pd pr I b de room (by omega) (by omega) hb hb1 hd hd1 wr h1 h2 h3
      clear h1 h2 h3 hI
      go_wp2_with fail
      refine hf.mono ?_
      rintro e w3 ⟨rfl, hb3⟩
      have hB3 : Below w.heap.size w w3 := chain hB hb3
      by_cases hfit : cost b de I ≤ room
      · have z : decide (cost b de I ≤ room) = true := by simpa using hfit
        rw [z]
        clear hf z hmid htd
        go_wp2
        go_roundw
        case rel => exact ⟨M, I, rfl, rfl, hI2, q2, hfit, HM.out, hB3⟩
        case measure => simp [intOf]; omega
      · have z : decide (cost b de I ≤ room) = false := by simpa using hfit
        rw [z]
        have HM' : Hid (room < cost b de (((I - 1 : Nat) : Int) + 1)) := by show _ < _; rw [show (((I - 1 : Nat) : Int) + 1) = I by omega]; omega
        clear hf z hmid htd hfit
        go_wp2
        go_roundw
        case rel => exact ⟨I - 1, L, by go_num, rfl, by omega, by omega, HL.out, Or.inr HM'.out, hB3⟩
        case measure => simp [intOf]; omega
    · obtain rfl : L = M := by omega
      have HE : Hid (Best b de room L) := ⟨by omega, by omega, fun u h0 h1 => Int.le_trans (cost_mono hb hd h0 h1 (by omega)) HL.out, by rcases HM.out with e | e; exact Or.inl (by omega); exact Or.inr e⟩
      clear hlt
      go_wp2
      go_ret
      exact ⟨⟨_, HE.out, rfl⟩, hB⟩

set_option maxHeartbeats 4000000 in
theorem implSpeed_any (a1 a2 a3 a4 : Option Addr) (c1 c2 c3 c4 : Nat) (A : Nat → Option Addr) (C : Nat → Nat) (d : RD) (s b de : Int) (w : World) (hs : Small d) (h : RowAt w a1 a2 a3 a4 A C d) :
    Calls Try.prog 31 #[.agg #[.slice a1 d.nN c1, .slice a2 d.nF c2, .slice a3 d.nO c3, .slice a4 d.nW c4], .int .i64 s, .int .i64 b, .int .i64 de] w fun e w' =>
      (∃ r, IsSpeed d s b de r ∧ e = .returned (.int .i64 r)) ∧ Below w.heap.size w w' := by
  have bel : Below w.heap.size w (((w.alloc (.cells #[.slice a1 d.nN c1, .slice a2 d.nF c2, .slice a3 d.nO c3, .slice a4 d.nW c4] 27)).alloc (.cells #[.int .i64 b] 3)).alloc (.cells #[.int .i64 de] 3)) := (((Below.refl _ _).alloc (Nat.le_refl _) _).alloc (by simp) _).alloc (by simp; omega) _
  have hk := h.keep bel
  have hbk := ((Blk.new w #[.slice a1 d.nN c1, .slice a2 d.nF c2, .slice a3 d.nO c3, .slice a4 d.nW c4] 27).alloc (.cells #[.int .i64 b] 3)).alloc (.cells #[.int .i64 de] 3)
  have hbb := (Blk.new (w.alloc (.cells #[.slice a1 d.nN c1, .slice a2 d.nF c2, .slice a3 d.nO c3, .slice a4 d.nW c4] 27)) #[.int .i64 b] 3).alloc (.cells #[.int .i64 de] 3)
  have hbd := Blk.new ((w.alloc (.cells #[.slice a1 d.nN c1, .slice a2 d.nF c2, .slice a3 d.nO c3, .slice a4 d.nW c4] 27)).alloc (.cells #[.int .i64 b] 3)) #[.int .i64 de] 3
  simp only [World.size_alloc] at hbb hbd
  clear h
  go_enter Try.func31, Try.ntmps31
  go_wp2_with fail
  generalize (((w.alloc (.cells #[.slice a1 d.nN c1, .slice a2 d.nF c2, .slice a3 d.nO c3, .slice a4 d.nW c4] 27)).alloc (.cells #[.int .i64 b] 3)).alloc (.cells #[.int .i64 de] 3)) = W at *
  refine (hasSignal_any a1 a2 a3 a4 c1 c2 c3 c4 A C d s W hs hk).mono ?_
  rintro e w1 ⟨⟨bb, rfl, hsay⟩, hb1⟩
  have bel1 : Below w.heap.size w w1 := chain bel hb1
  have hk1 := hk.keep hb1
  have hbr := hbk.keep hb1
  have hbb1 := hbb.keep hb1
  have hbd1 := hbd.keep hb1
  have e1 := hbb1.cell 0
  have e2 := hbd1.cell 0
  simp at e1 e2
  by_cases hok : SpOk d s b de
  case neg =>
    have HB : Hid (IsSpeed d s b de (-1)) := Or.inr ⟨hok, rfl⟩
    have HOK : Hid (¬ SpOk d s b de) := hok
    have HSAY : Hid (bb = true → Right d ∧ 0 ≤ s ∧ s < d.nN) := hsay.1
    clear hk hbk hb1 hsay hs hok hbb hbd bel hk1 hbr hbb1 hbd1
    cases bb with
    | false =>
      go_wp2
      go_ret
      exact ⟨⟨-1, HB.out, rfl⟩, bel1⟩
    | true =>
    by_cases q1 : b < 10
    · go_wp2
      go_ret
      exact ⟨⟨-1, HB.out, rfl⟩, bel1⟩
    by_cases q2 : 1000 < b
    · go_wp2
      go_ret
      exact ⟨⟨-1, HB.out, rfl⟩, bel1⟩
    by_cases q3 : de < 0
    · go_wp2
      go_ret
      exact ⟨⟨-1, HB.out, rfl⟩, bel1⟩
    have q4 : 20 < de := by
      have hin := HSAY.out rfl
      by_cases q : 20 < de
      · exact q
      · exact absurd ⟨hin.1, hin.2.1, hin.2.2, by omega, by omega, by omega, by omega⟩ HOK.out
    go_wp2
    go_ret
    exact ⟨⟨-1, HB.out, rfl⟩, bel1⟩
  obtain rfl : bb = true := hsay.2 ⟨hok.R, hok.s0, hok.s1⟩
  have HOK : Hid (SpOk d s b de) := hok
  obtain ⟨hR, s0, s1, b0', b1', d0, d1⟩ := hok
  obtain ⟨S, rfl⟩ : ∃ S : Nat, s = S := ⟨s.toNat, by omega⟩
  have hSN : S < d.nN := by omega
  have h60 := hR.s.nN
  have HRI : Hid (Right d) := hR
  have x0 := hbr.cell 0
  have x1 := hbr.cell 1
  have x2 := hbr.cell 2
  have x3 := hbr.cell 3
  simp at x0 x1 x2 x3
  clear hk hbk hb1 hsay hbb hbd bel hR
  go_wp2_with fail
  refine (shows_at a1 a2 a3 a4 c1 c2 c3 c4 A C d w1 hs HRI.out hk1).mono ?_
  rintro e w2 ⟨⟨wn, sh, hl, ao, cap, rfl, hsl⟩, hb2⟩
  have bel2 : Below w.heap.size w w2 := chain bel1 hb2
  have HL : Hid (Least d d.nN wn sh) := hl
  obtain ⟨bs, os, rfl, hcs⟩ := hsl S hSN
  replace hcs : w2.cell? ⟨bs, os + S, none⟩ = some (.int .i64 (sh S)) := hcs
  have hsb := (hl.bd HRI.out.inside S hSN).2.2
  have hk2 := hk1.keep hb2
  have hbr2 := hbr.keep hb2
  have hbb2 := hbb1.keep hb2
  have hbd2 := hbd1.keep hb2
  clear x0 x1 x2 x3 e1 e2
  have x0 := hbr2.cell 0
  have x1 := hbr2.cell 1
  have x2 := hbr2.cell 2
  have x3 := hbr2.cell 3
  simp at x0 x1 x2 x3
  clear hk1 hbr hbb1 hbd1 hb2 bel1 hl hsl hs
  by_cases hst : sh S ≤ 0
  · have HI : Hid (IsSpeed d S b de 0) := Or.inl ⟨HOK.out, wn, sh, HL.out, Or.inl ⟨by rw [Int.toNat_natCast]; exact hst, rfl⟩⟩
    go_wp2
    go_ret
    exact ⟨⟨0, HI.out, rfl⟩, bel2⟩
  have hrf := roomFor_any a1 a2 a3 a4 c1 c2 c3 c4 A C d S (sh S) w2 HRI.out hSN hsb.1 hsb.2 hk2
  have hrb := rm_bd HRI.out (sh S).toNat S (by omega) (by omega)
  have HI : Hid (∀ r, Best b de (rm d (sh S).toNat S) r → IsSpeed d S b de r) := fun r hr => Or.inl ⟨HOK.out, wn, sh, HL.out, Or.inr ⟨by rw [Int.toNat_natCast]; omega, by rw [Int.toNat_natCast]; exact hr⟩⟩
  generalize rm d (sh S).toNat S = room at *
  go_wp2_with fail
  refine hrf.mono ?_
  rintro e w3 ⟨rfl, hb3⟩
  have bel3 : Below w.heap.size w w3 := chain bel2 hb3
  have hal : Below w3.heap.size w3 (w3.alloc (.cells #[.int .i64 room] 3)) := (Below.refl _ _).alloc (Nat.le_refl _) _
  have k1 := ((hbb2.keep hb3).keep hal).cell 0
  have k2 := ((hbd2.keep hb3).keep hal).cell 0
  have k3 := (Blk.new w3 #[.int .i64 room] 3).cell 0
  simp only [List.getElem?_toArray, List.getElem?_cons_zero] at k1 k2 k3
  have hgf := greatestFit_any _ _ _ b de room b0' b1' d0 d1 hrb.1 _ k1 k2 k3
  have hmf : ∀ (fn : Fn) (first cap : Array Value) (w : World), (Instr.makeFunc fn first cap).run Try.prog w = .ok (.func fn first cap) w := fun _ _ _ _ => rfl
  clear hrf hk2 hbr2 hbb2 hbd2 bel2 x0 x1 x2 x3 hcs k1 k2 k3
  go_wp2_with fail
  refine hgf.mono ?_
  rintro e w4 ⟨⟨r, hr, rfl⟩, hb4⟩
  have HE : Hid (IsSpeed d S b de r) := HI.out r hr
  have bel4 : Below w.heap.size w w4 := chain (chain bel3 hal) hb4
  clear hgf hal hb4 hr
  go_wp2
  go_ret
  exact ⟨⟨_, HE.out, rfl⟩, bel4⟩

end Go.Proofs.Ytachkoledebanaa
