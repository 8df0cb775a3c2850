/-
  FnTight: at whatever bytes: true.
-/
import Derived.Test.YtachkoledebanaaMkC
import Derived.Test.YtachkoledebanaaTgt
import Derived.Test.YtachkoledebanaaSho2
import Derived.Test.YtachkoledebanaaWS
import Derived.Test.YtachkoledebanaaClo2
import Derived.Test.YtachkoledebanaaBre2
import Derived.Deep.DeepCutAuto
import Derived.Deep.LoopGhost
namespace Go.Proofs.Ytachkoledebanaa
open Go.RowKit

theorem drawn_small' {k : Code} (h : Bytes k) : Small (drawn k) := by
  have := dN_bd h
  exact ⟨by show dN k ≤ _; omega, by show dN k ≤ _; omega, by show dN k ≤ _; omega, by show dN k ≤ _; omega, fun i _ => by show 4 ≤ _; omega⟩

/-- the row of the round j: a way closed, a lamp broken -/
def dQ (d : RD) (S l j : Nat) : RD := if j = 0 then closed d S else broken d S l
theorem dQ_right {d : RD} (h : Right d) (S l j : Nat) : Right (dQ d S l j) := by unfold dQ; split; exact h.closed S; exact h.broken S l
theorem dQ_tight (d : RD) (S l j : Nat) : Tighter (dQ d S l j) d := by unfold dQ; split; exact closed_tighter d S; exact broken_tighter d S l
theorem dQ_small {d : RD} (h : Small d) (S l j : Nat) : Small (dQ d S l j) := by unfold dQ; split; exact ⟨h.nN, h.nF, h.nO, h.nW, h.L⟩; exact ⟨h.nN, h.nF, h.nO, h.nW, h.L⟩

theorem dQ_dims (d : RD) (S l j : Nat) : (dQ d S l j).nN = d.nN ∧ (dQ d S l j).nF = d.nF ∧ (dQ d S l j).nO = d.nO ∧ (dQ d S l j).nW = d.nW := by unfold dQ; split <;> exact ⟨rfl, rfl, rfl, rfl⟩

/-- what is told of round j -/
def Told (d : RD) (S l j : Nat) (zs : List (Int × Int × Int)) : Prop := ∃ wn sh wn' sh', Least d d.nN wn sh ∧ Least (dQ d S l j) d.nN wn' sh' ∧ zs = chg sh sh' d.nN

theorem shows_lst {d : RD} {xs : List Int} (hR : Right d) (h : IsShows d xs) : ∃ wn sh, Least d d.nN wn sh ∧ xs = lst sh d.nN := by
  rcases h with ⟨_, wn, sh, hl, rfl⟩ | ⟨h, _⟩
  · exact ⟨wn, sh, hl, rfl⟩
  · exact absurd hR h

theorem ret_lst' {e : Ending} {lo n : Nat} {w' : World} {f : Nat → Int} (h : RetInts e lo w' (lst f n)) : ∃ ao cap, e = .returned (.slice ao n cap) ∧ OwnS w' lo w'.heap.size ao n (fun k => .int .i64 (f k)) := by
  obtain ⟨ao, cap, he, ho⟩ := h
  rw [lst_len] at he ho
  exact ⟨ao, cap, he, ho.congr fun k hk => by rw [lst_get f n k hk]⟩

set_option maxHeartbeats 8000000 in
set_option maxRecDepth 100000 in
theorem lawTight (ca : Option Addr) (cc : Nat) (k : Code) (ma : Option Addr) (mc : Nat) (m : Code) (w : World) (hk : Bytes k) (h : CodeAt w ca k) (hn63 : k.n ≤ 9223372036854775807) (hm : Bytes m) (g : CodeAt w ma m) (hm63 : m.n ≤ 9223372036854775807) :
    Calls Try.prog 5 #[.slice ca k.n cc, .slice ma m.n mc] w fun e w' => e = .returned (.bool true) ∧ Below w.heap.size w w' := by
  have HK : Hid (Bytes k ∧ Bytes m) := ⟨hk, hm⟩
  have HH : Hid (CodeAt w ca k ∧ CodeAt w ma m) := ⟨h, g⟩
  clear h hk hm g
  go_enter Try.func5, Try.ntmps5
  by_cases hn : k.n ≤ 1048576
  case neg =>
    have z : decide ((1048576 : Int) < (k.n : Int)) = true := by simp; omega
    go_wp2
    go_ret
    exact ⟨rfl, Below.refl _ _⟩
  have z : decide ((1048576 : Int) < (k.n : Int)) = false := by simp; omega
  by_cases hn2 : m.n ≤ 1048576
  case neg =>
    have z2 : decide ((1048576 : Int) < (m.n : Int)) = true := by simp; omega
    go_wp2
    go_ret
    exact ⟨rfl, Below.refl _ _⟩
  have z2 : decide ((1048576 : Int) < (m.n : Int)) = false := by simp; omega
  go_wp2_with fail
  refine (rows_any ca cc k w hn HK.out.1 HH.out.1).mono ?_
  rintro e w1 ⟨⟨a1, a2, a3, a4, c1, c2, c3, c4, bI, rfl, hM1⟩, hb1⟩
  have P1 := Blk.new w1 #[.slice a1 (drawn k).nN c1, .slice a2 (drawn k).nF c2, .slice a3 (drawn k).nO c3, .slice a4 (drawn k).nW c4] 27
  have bW1 : Below w1.heap.size w1 (w1.alloc (.cells #[.slice a1 (drawn k).nN c1, .slice a2 (drawn k).nF c2, .slice a3 (drawn k).nO c3, .slice a4 (drawn k).nW c4] 27)) := (Below.refl _ _).alloc (Nat.le_refl _) _
  have HA1 : Hid (RowAt (w1.alloc (.cells #[.slice a1 (drawn k).nN c1, .slice a2 (drawn k).nF c2, .slice a3 (drawn k).nO c3, .slice a4 (drawn k).nW c4] 27)) a1 a2 a3 a4 (fun j => some ⟨bI j, 0, none⟩) (fun _ => 4) (drawn k)) := (hM1.at (fun i _ => rfl)).keep bW1
  have B1 := chain hb1 bW1
  clear hM1 hb1 bW1 z z2
  go_wp2_with fail
  generalize (w1.alloc (.cells #[.slice a1 (drawn k).nN c1, .slice a2 (drawn k).nF c2, .slice a3 (drawn k).nO c3, .slice a4 (drawn k).nW c4] 27)) = W1 at *
  have x0 := P1.cell 0
  simp at x0
  have hdn := dN_bd HK.out.1
  have hq0 : (drawn k).nN = dN k := rfl
  have HC1 : Hid (CodeAt W1 ca k ∧ CodeAt W1 ma m) := ⟨HH.out.1.keep B1, HH.out.2.keep B1⟩
  go_quiet ((go_at_call 22; exact Calls.quiet_of ((wByte_any ma mc m 0 _ hn2 (by omega) HK.out.2 (HC1.out.2.keep (below_drewN (Below.refl _ _) _))).mono fun e w' hh => ⟨hh.1, 0, hh.2⟩)))
  have hy := wb_bd HK.out.2 0
  obtain ⟨S, hS⟩ : ∃ S : Nat, (wb m 0).tmod (dN k : Int) = S := ⟨((wb m 0).tmod (dN k : Int)).toNat, by have := Int.tmod_nonneg (dN k : Int) hy.1; omega⟩
  have hSN : S < dN k := by
    have h1 := Int.tmod_eq_emod_of_nonneg (b := (dN k : Int)) hy.1
    have h2 := Int.emod_lt_of_pos (wb m 0) (show (0 : Int) < dN k by omega)
    omega
  rw [hS]
  have BD : Below W1.heap.size W1 (W1.drewN nq) := below_drewN (Below.refl _ _) _
  have PD := P1.keep BD
  have HA2 : Hid (RowAt (W1.drewN nq) a1 a2 a3 a4 (fun j => some ⟨bI j, 0, none⟩) (fun _ => 4) (drawn k)) := HA1.out.keep BD
  have HC2 : Hid (CodeAt (W1.drewN nq) ca k ∧ CodeAt (W1.drewN nq) ma m) := ⟨HC1.out.1.keep BD, HC1.out.2.keep BD⟩
  have B2 := chain B1 BD
  clear hq0 hy hS x0 HA1 HC1 P1 B1 BD
  generalize (W1.drewN nq) = W2 at *
  go_wp2_with fail
  refine (wByte_any ma mc m 1 W2 hn2 (by omega) HK.out.2 HC2.out.2).mono ?_
  rintro e w3 ⟨rfl, hw3⟩
  replace hw3 := hw3.symm
  subst hw3
  have hy := wb_bd HK.out.2 1
  obtain ⟨l, hl⟩ : ∃ l : Nat, wb m 1 % 4 = l := ⟨(wb m 1 % 4).toNat, by omega⟩
  have hl4 : l < 4 := by omega
  obtain ⟨y1, hy1⟩ : ∃ y1, y1 = wb m 1 := ⟨_, rfl⟩
  rw [← hy1] at hl hy ⊢
  clear hy1
  have x0 := PD.cell 0
  have x1 := PD.cell 1
  have x2 := PD.cell 2
  have x3 := PD.cell 3
  simp at x0 x1 x2 x3
  go_wp2_with fail
  rw [hl]
  have hsm := drawn_small' HK.out.1
  have HSM : Hid (Small (drawn k) ∧ Right (drawn k)) := ⟨hsm, drawn_right HK.out.1⟩
  refine (specShows_any a1 a2 a3 a4 c1 c2 c3 c4 _ _ (drawn k) W2 hsm HA2.out).mono ?_
  rintro e w4 ⟨⟨xs, hxs, hret⟩, hb4⟩
  obtain ⟨wn, sh, hlst, rfl⟩ := shows_lst HSM.out.2 hxs
  obtain ⟨sa, cA, rfl, hoA⟩ := ret_lst' hret
  have HL : Hid (Least (drawn k) (drawn k).nN wn sh) := hlst
  have HP : Hid (Blk w4 w1.heap.size #[.slice a1 (drawn k).nN c1, .slice a2 (drawn k).nF c2, .slice a3 (drawn k).nO c3, .slice a4 (drawn k).nW c4] 27) := PD.keep hb4
  have HA4 : Hid (RowAt w4 a1 a2 a3 a4 (fun j => some ⟨bI j, 0, none⟩) (fun _ => 4) (drawn k)) := HA2.out.keep hb4
  have HC4 : Hid (CodeAt w4 ca k) := HC2.out.1.keep hb4
  have HO4 : Hid (SlAt w4 sa (drawn k).nN (fun k => .int .i64 (sh k))) := hoA.sl
  have B4 := chain B2 hb4
  clear hl hy x0 x1 x2 x3 hxs hret hoA hlst hsm PD HA2 HC2 B2 hb4
  go_wp2
  go_loopg [9] 2 (fun g t wr => ∃ j : Nat, j + g = 2 ∧ t = .int .i64 j ∧ Below w4.heap.size w4 wr)
  case atStart => exact ⟨0, rfl, rfl, Below.refl _ _⟩
  case round =>
    obtain ⟨j, hj, rfl, hbr⟩ := hrel
    by_cases hlt : j < 2
    · have z : decide ((j : Int) < 2) = true := by simp; omega
      go_wp2_with fail
      refine (rows_any ca cc k wr hn HK.out.1 (HC4.out.keep hbr)).mono ?_
      rintro e w5 ⟨⟨b1, b2, b3, b4, e1, e2, e3, e4, bJ, rfl, hM5⟩, hb5⟩
      have Q5 := Blk.new w5 #[.slice b1 (drawn k).nN e1, .slice b2 (drawn k).nF e2, .slice b3 (drawn k).nO e3, .slice b4 (drawn k).nW e4] 27
      have bW5 : Below w5.heap.size w5 (w5.alloc (.cells #[.slice b1 (drawn k).nN e1, .slice b2 (drawn k).nF e2, .slice b3 (drawn k).nO e3, .slice b4 (drawn k).nW e4] 27)) := (Below.refl _ _).alloc (Nat.le_refl _) _
      have B6 : Below w4.heap.size w4 (w5.alloc (.cells #[.slice b1 (drawn k).nN e1, .slice b2 (drawn k).nF e2, .slice b3 (drawn k).nO e3, .slice b4 (drawn k).nW e4] 27)) := chain (chain hbr hb5) bW5
      have HM6 : Hid (Made wr.heap.size (drawn k) b1 b2 b3 b4 bJ (w5.alloc (.cells #[.slice b1 (drawn k).nN e1, .slice b2 (drawn k).nF e2, .slice b3 (drawn k).nO e3, .slice b4 (drawn k).nW e4] 27))) := hM5.keep bW5
      have P6 := HP.out.keep B6
      have x0 := P6.cell 0
      have x1 := P6.cell 1
      have x2 := P6.cell 2
      have x3 := P6.cell 3
      simp only [List.getElem?_toArray, List.getElem?_cons_succ, List.getElem?_cons_zero] at x0 x1 x2 x3
      have HBR : Hid (Below w4.heap.size w4 wr) := hbr
      have HZ : Hid (w4.heap.size ≤ wr.heap.size) := hbr.size
      have HZ5 : Hid (wr.heap.size ≤ w5.heap.size) := hb5.size
      clear hM5 hb5 bW5 hbr
      go_wp2_with fail
      generalize (w5.alloc (.cells #[.slice b1 (drawn k).nN e1, .slice b2 (drawn k).nF e2, .slice b3 (drawn k).nO e3, .slice b4 (drawn k).nW e4] 27)) = W6 at *
      refine (implClosing_any a1 a2 a3 a4 c1 c2 c3 c4 _ _ (drawn k) S W6 HSM.out.1 (HA4.out.keep B6)).mono ?_
      rintro e w7 ⟨⟨zs, hzs, ⟨sz, cZ, rfl, hoZ⟩⟩, hb7⟩
      have B7 := chain B6 hb7
      have Q7 := Q5.keep hb7
      have HM7 : Hid (Made wr.heap.size (drawn k) b1 b2 b3 b4 bJ w7) := HM6.out.keep hb7
      have HQ7 : Hid (Blk w7 w5.heap.size #[.slice b1 (drawn k).nN e1, .slice b2 (drawn k).nF e2, .slice b3 (drawn k).nO e3, .slice b4 (drawn k).nW e4] 27) := Q7
      have HT0 : Hid (Told (drawn k) S l 0 zs) := by
        rcases hzs with ⟨_, _, _, wn1, sh1, wn2, sh2, q1, q2, q3⟩ | ⟨q, _⟩
        · exact ⟨wn1, sh1, wn2, sh2, q1, by unfold dQ; rw [if_pos rfl]; exact q2, q3⟩
        · exact absurd ⟨HSM.out.2, by omega, by show (S : Int) < (dN k : Int); omega⟩ q
      have HOZ : Hid (OwnC w7 W6.heap.size w7.heap.size sz zs.length (fun k => zs.getD k (0, 0, 0))) := hoZ
      have HQL : Hid (w5.heap.size < W6.heap.size) := Q5.lt
      have y0 := Q7.cell 0
      have y1 := Q7.cell 1
      have y2 := Q7.cell 2
      have y3 := Q7.cell 3
      have P7 := HP.out.keep B7
      clear x0 x1 x2 x3
      have x0 := P7.cell 0
      have x1 := P7.cell 1
      have x2 := P7.cell 2
      have x3 := P7.cell 3
      simp at x0 x1 x2 x3 y0 y1 y2 y3
      have HBL : Hid ((∀ b, b3 = some ⟨b, 0, none⟩ → b < W6.heap.size) ∧ bJ S < W6.heap.size) := ⟨fun b e => by
          obtain ⟨b', c', e', _, h2, _⟩ := HM6.out.op S (show S < dN k from hSN)
          rw [e] at e'
          have : b = b' := by simpa using e'
          omega, (HM6.out.lm S (show S < dN k from hSN)).1.lt⟩
      clear hzs hoZ hb7 Q5 Q7 P6 HM6 B6
      go_upto_if 46 with fail
      go_cut [11] (fun t wz => ∃ zs ao cap, t = .slice ao zs.length cap ∧ Told (drawn k) S l j zs ∧ OwnC wz w4.heap.size wz.heap.size ao zs.length (fun k => zs.getD k (0, 0, 0)) ∧ RowAt wz b1 b2 b3 b4 (fun j => some ⟨bJ j, 0, none⟩) (fun _ => 4) (dQ (drawn k) S l j) ∧ Blk wz w5.heap.size #[.slice b1 (drawn k).nN e1, .slice b2 (drawn k).nF e2, .slice b3 (drawn k).nO e3, .slice b4 (drawn k).nW e4] 27 ∧ Below w4.heap.size w4 wz)
      case first =>
        have hj01 : j = 0 ∨ j = 1 := by omega
        rcases hj01 with rfl | rfl
        · have z0 : (((0 : Nat) : Int) == 0) = true := rfl
          obtain ⟨b, rfl, hb, hbl, hcb, hfb, hrow⟩ := HM7.out.close (fun i _ => rfl) (s := S) (show S < dN k from hSN)
          have hne : w5.heap.size ≠ b := by
            obtain ⟨b', c', e', _, _, h3, _⟩ := HM7.out.op S (show S < dN k from hSN)
            have e1 : b = b' := by simpa using e'
            subst e1
            exact blk_ne h3 HQ7.out (by decide)
          have hbW := HBL.out.1 b rfl
          have HF : Hid (OwnC (w7.setCell ⟨b, S, none⟩ (.bool false)) w4.heap.size (w7.setCell ⟨b, S, none⟩ (.bool false)).heap.size sz zs.length (fun k => zs.getD k (0, 0, 0)) ∧ RowAt (w7.setCell ⟨b, S, none⟩ (.bool false)) b1 b2 (some ⟨b, 0, none⟩) b4 (fun j => some ⟨bJ j, 0, none⟩) (fun _ => 4) (dQ (drawn k) S l 0) ∧ Blk (w7.setCell ⟨b, S, none⟩ (.bool false)) w5.heap.size #[.slice b1 (drawn k).nN e1, .slice b2 (drawn k).nF e2, .slice (some ⟨b, 0, none⟩) (drawn k).nO e3, .slice b4 (drawn k).nW e4] 27 ∧ Below w4.heap.size w4 (w7.setCell ⟨b, S, none⟩ (.bool false))) :=
            ⟨((HOZ.out.only (lo' := b) (hi' := b + 1) ((Only.refl b (b + 1) w7).setCell (p := ⟨b, S, none⟩) (Nat.le_refl _) (Nat.lt_succ_self _) _) (Or.inr (by omega))).wide (by have := HZ.out; have := HZ5.out; have := HQL.out; omega) (by simp)), by unfold dQ; rw [if_pos rfl]; exact hrow, HQ7.out.other (a := ⟨b, S, none⟩) hne _, B7.setCell (by show w4.heap.size ≤ b; have := HZ.out; omega) _⟩
          clear hrow HM7 HQ7 HOZ B7 P7
          go_wp2
          go_meet
          exact ⟨zs, sz, cZ, rfl, HT0.out, HF.out⟩
        · have z0 : (((1 : Nat) : Int) == 0) = false := rfl
          obtain ⟨b4', rfl, hc4, hlo, hbl, hcl, hfl, hrow⟩ := HM7.out.brk (fun i _ => rfl) (s := S) (l := l) (show S < dN k from hSN) hl4
          have hne : w5.heap.size ≠ bJ S := by
            obtain ⟨cc', hcc', _⟩ := (HM7.out.lm S (show S < dN k from hSN)).1
            exact blk_ne hcc' HQ7.out (by decide)
          have B8 : Below w4.heap.size w4 (w7.setCell ⟨bJ S, l, none⟩ (.bool false)) := B7.setCell (by show w4.heap.size ≤ bJ S; have := HZ.out; omega) _
          have P8 := HP.out.keep B8
          have HR8 : Hid (RowAt (w7.setCell ⟨bJ S, l, none⟩ (.bool false)) b1 b2 b3 (some ⟨b4', 0, none⟩) (fun j => some ⟨bJ j, 0, none⟩) (fun _ => 4) (dQ (drawn k) S l 1)) := by show RowAt _ _ _ _ _ _ _ _; unfold dQ; rw [if_neg (by omega)]; exact hrow
          have HQ8 : Hid (Blk (w7.setCell ⟨bJ S, l, none⟩ (.bool false)) w5.heap.size #[.slice b1 (drawn k).nN e1, .slice b2 (drawn k).nF e2, .slice b3 (drawn k).nO e3, .slice (some ⟨b4', 0, none⟩) (drawn k).nW e4] 27) := HQ7.out.other (a := ⟨bJ S, l, none⟩) hne _
          clear x0 x1 x2 x3
          have x0 := P8.cell 0
          have x1 := P8.cell 1
          have x2 := P8.cell 2
          have x3 := P8.cell 3
          simp only [List.getElem?_toArray, List.getElem?_cons_succ, List.getElem?_cons_zero] at x0 x1 x2 x3
          have hcall := implBreaking_any a1 a2 a3 a4 c1 c2 c3 c4 _ _ (drawn k) S l (w7.setCell ⟨bJ S, l, none⟩ (.bool false)) HSM.out.1 (HA4.out.keep B8)
          clear hrow HM7 HQ7 HOZ B7 P7 P8
          go_wp2_with fail
          refine hcall.mono ?_
          rintro e w9 ⟨⟨ys, hys, ⟨sy, cY, rfl, hoY⟩⟩, hb9⟩
          have HT1 : Hid (Told (drawn k) S l 1 ys) := by
            rcases hys with ⟨_, _, _, _, _, wn1, sh1, wn2, sh2, q1, q2, q3⟩ | ⟨q, _⟩
            · exact ⟨wn1, sh1, wn2, sh2, q1, by unfold dQ; rw [if_neg (by omega)]; exact q2, q3⟩
            · exact absurd ⟨HSM.out.2, by omega, by show (S : Int) < (dN k : Int); omega, by omega, by omega⟩ q
          have HF : Hid (OwnC w9 w4.heap.size w9.heap.size sy ys.length (fun k => ys.getD k (0, 0, 0)) ∧ RowAt w9 b1 b2 b3 (some ⟨b4', 0, none⟩) (fun j => some ⟨bJ j, 0, none⟩) (fun _ => 4) (dQ (drawn k) S l 1) ∧ Blk w9 w5.heap.size #[.slice b1 (drawn k).nN e1, .slice b2 (drawn k).nF e2, .slice b3 (drawn k).nO e3, .slice (some ⟨b4', 0, none⟩) (drawn k).nW e4] 27 ∧ Below w4.heap.size w4 w9) :=
            ⟨hoY.wide B8.size (Nat.le_refl _), HR8.out.keep hb9, HQ8.out.keep hb9, chain B8 hb9⟩
          clear hys hoY hb9 hcall HR8 HQ8 B8 x0 x1 x2 x3
          go_wp2
          go_meet
          exact ⟨ys, sy, cY, rfl, HT1.out, HF.out⟩
      case rest =>
      obtain ⟨W9, rfl⟩ : ∃ W9, W9 = wc := ⟨wc, rfl⟩
      obtain ⟨vs, sv, cV, rfl, htold, hov, hrow, hQ, hB9⟩ := hcut
      have HE := dQ_dims (drawn k) S l j
      have hcall := implShows_any b1 b2 b3 b4 e1 e2 e3 e4 _ _ (dQ (drawn k) S l j) W9 (dQ_small HSM.out.1 S l j) hrow
      rw [HE.1, HE.2.1, HE.2.2.1, HE.2.2.2] at hcall
      have HCA : Hid (Calls Try.prog 15 #[.agg #[.slice b1 (drawn k).nN e1, .slice b2 (drawn k).nF e2, .slice b3 (drawn k).nO e3, .slice b4 (drawn k).nW e4]] W9 fun e w' => (∃ xs, IsShows (dQ (drawn k) S l j) xs ∧ RetInts e W9.heap.size w' xs) ∧ Below W9.heap.size W9 w') := hcall
      have HEN : Hid ((dQ (drawn k) S l j).nN = (drawn k).nN) := HE.1
      have HTO : Hid (Told (drawn k) S l j vs) := htold
      have HOV : Hid (OwnC W9 w4.heap.size W9.heap.size sv vs.length (fun k => vs.getD k (0, 0, 0))) := hov
      have HB9 : Hid (Below w4.heap.size w4 W9) := hB9
      clear y0 y1 y2 y3 x0 x1 x2 x3
      have y0 := hQ.cell 0
      have y1 := hQ.cell 1
      have y2 := hQ.cell 2
      have y3 := hQ.cell 3
      simp at y0 y1 y2 y3
      clear HE hcall hrow htold hov hB9 hQ HM7 HQ7 HT0 HOZ P7 B7 HBL
      go_wp2_with fail
      refine HCA.out.mono ?_
      rintro e w10 ⟨⟨ys, hys, hret⟩, hb10⟩
      obtain ⟨wn3, sh3, hl3, rfl⟩ := shows_lst (dQ_right HSM.out.2 S l j) hys
      rw [HEN.out] at hl3 hret
      obtain ⟨sn, cN, rfl, hoN⟩ := ret_lst' hret
      have hinD : Inside (drawn k) (drawn k).nN := HSM.out.2.inside
      have hinQ : Inside (dQ (drawn k) S l j) (drawn k).nN := fun i hi => by rw [(dQ_tight (drawn k) S l j).nx]; exact hinD i hi
      have HVS : Hid (vs = chg sh sh3 (drawn k).nN) := by
        obtain ⟨wn1, sh1, wn2, sh2, q1, q2, q3⟩ := HTO.out
        show vs = _
        rw [q3]
        exact chg_congr _ (q1.one hinD HL.out).2 (q2.one hinQ hl3).2
      have HTG : Hid (∀ i, i < (drawn k).nN → sh3 i ≤ sh i) := Least.tight (dQ_tight (drawn k) S l j) hinD HL.out hl3
      have HN10 : Hid (SlAt w10 sn (drawn k).nN (fun k => .int .i64 (sh3 k))) := hoN.sl
      have HA10 : Hid (SlAt w10 sa (drawn k).nN (fun k => .int .i64 (sh k))) := HO4.out.keep (chain HB9.out hb10)
      have HV10 : Hid (OwnC w10 w4.heap.size W9.heap.size sv vs.length (fun k => vs.getD k (0, 0, 0))) := HOV.out.keep hb10
      have HB10 : Hid (Below w4.heap.size w4 w10) := chain HB9.out hb10
      have hnn : (drawn k).nN ≤ 60 := HSM.out.2.s.nN
      have hzn : (((drawn k).nN : Int) != ((drawn k).nN : Int)) = false := by simp
      have hvl : vs.length ≤ 60 := by rw [HVS.out]; exact Nat.le_trans (chg_le _ _ _) hnn
      clear hl3 hys hret hoN hinD hinQ hb10 HOV HTO HCA HB9 y0 y1 y2 y3
      go_wp2
      go_loopw [13, 71] (fun mm t wr => ∃ i x : Nat, i ≤ (drawn k).nN ∧ t = .int .i64 i ∧ mm = .int .i64 (chg sh sh3 i).length ∧ wr = w10.drewN x) (fun _ t _ => (drawn k).nN - (intOf t).toNat)
      case atStart => exact ⟨0, 0, Nat.zero_le _, rfl, rfl, rfl⟩
      case round =>
        obtain ⟨i, x, hi, rfl, rfl, rfl⟩ := hrel
        by_cases hilt : i < (drawn k).nN
        · obtain ⟨bn, on, rfl, hcn⟩ := HN10.out i hilt
          obtain ⟨ba, oa, rfl, hca⟩ := HA10.out i hilt
          replace hcn : w10.cell? ⟨bn, on + i, none⟩ = some (.int .i64 (sh3 i)) := hcn
          replace hca : w10.cell? ⟨ba, oa + i, none⟩ = some (.int .i64 (sh i)) := hca
          have hle := HTG.out i hilt
          have hilt' : (i : Int) < ((drawn k).nN : Int) := by omega
          have hi0 : (0 : Int) ≤ (i : Int) := by omega
          have z1 : decide (sh i < sh3 i) = false := by simp; omega
          have hcl := chg_le sh sh3 i
          by_cases heq : sh3 i = sh i
          · have z2 : (sh3 i == sh i) = true := by rw [beq_iff_eq]; exact heq
            have HC : Hid (chg sh sh3 (i + 1) = chg sh sh3 i) := by show (if sh i = sh3 i then _ else _) = _; rw [if_pos heq.symm]
            clear heq
            go_wp2_with fail
            go_quiet (fail)
            go_wp2_with fail
            go_quiet (fail)
            go_wp2
            go_roundw
            case rel => exact ⟨i + 1, _, by omega, by go_num, by rw [HC.out], rfl⟩
            case measure => simp [intOf]; omega
          · have z2 : (sh3 i == sh i) = false := by rw [beq_eq_false_iff_ne]; exact heq
            have HC : Hid (chg sh sh3 (i + 1) = chg sh sh3 i ++ [((i : Int), sh i, sh3 i)]) := by show (if sh i = sh3 i then _ else _) = _; rw [if_neg (Ne.symm heq)]
            have hat := chg_at (x := sh) (y := sh3) hilt (fun e => heq e.symm)
            rw [← HVS.out] at hat
            obtain ⟨M, hM⟩ : ∃ M, M = (chg sh sh3 i).length := ⟨_, rfl⟩
            have HMM : Hid (M = (chg sh sh3 i).length) := hM
            rw [← hM] at hat hcl ⊢
            clear hM heq
            obtain ⟨bc, rfl, _, _, ⟨hv0, hv1, hv2⟩, _⟩ := HV10.out M hat.1
            simp only [hat.2] at hv0 hv1 hv2
            have hM1 : (M : Int) < (vs.length : Int) := by have := hat.1; omega
            have z3 : decide ((vs.length : Int) ≤ (M : Int)) = false := by simp; omega
            have z3' : decide (vs.length ≤ M) = false := by simp; omega
            clear hat
            go_wp2_with fail
            go_quiet (fail)
            go_wp2_with fail
            go_quiet (fail)
            go_wp2_with fail
            go_quiet (fail)
            go_wp2
            go_roundw
            case rel => exact ⟨i + 1, _, by omega, by go_num, by rw [HC.out]; simp [HMM.out], rfl⟩
            case measure => simp [intOf]; omega
        · obtain rfl : i = (drawn k).nN := by omega
          have hlen : (chg sh sh3 (drawn k).nN).length = vs.length := by rw [HVS.out]
          rw [hlen]
          have z4 : ((vs.length : Int) != (vs.length : Int)) = false := by simp
          have HBl : Hid (Below w4.heap.size w4 (w10.drewN x)) := below_drewN HB10.out x
          clear hlen
          go_wp2
          go_roundg (2 - (j + 1))
          case measure => omega
          case rel => exact ⟨j + 1, by omega, by go_num, HBl.out⟩
    · have hj2 : j = 2 := by omega
      subst hj2
      have BF : Below w.heap.size w wr := chain B4 hbr
      go_wp2
      go_ret
      exact ⟨rfl, BF⟩

end Go.Proofs.Ytachkoledebanaa
