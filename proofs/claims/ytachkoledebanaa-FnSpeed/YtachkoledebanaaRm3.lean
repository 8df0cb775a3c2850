/-
  Room: the program's.
-/
import Derived.Test.YtachkoledebanaaRm
import Derived.Test.YtachkoledebanaaHas
import Derived.Test.YtachkoledebanaaSho2
import Derived.Deep.LoopGhost
import Derived.Deep.DeepCutAuto
namespace Go.Proofs.Ytachkoledebanaa
open Go.RowKit

/-- Shows of a right row: the least way of agreeing, in a slice -/
theorem shows_at (a1 a2 a3 a4 : Option Addr) (c1 c2 c3 c4 : Nat) (A : Nat → Option Addr) (C : Nat → Nat) (d : RD) (w : World) (hs : Small d) (hR : Right d) (h : RowAt w a1 a2 a3 a4 A C d) :
    Calls Try.prog 15 #[.agg #[.slice a1 d.nN c1, .slice a2 d.nF c2, .slice a3 d.nO c3, .slice a4 d.nW c4]] w fun e w' =>
      (∃ wn sh, Least d d.nN wn sh ∧ ∃ ao cap, e = .returned (.slice ao d.nN cap) ∧ SlAt w' ao d.nN (fun k => .int .i64 (sh k))) ∧ Below w.heap.size w w' := by
  refine (implShows_any a1 a2 a3 a4 c1 c2 c3 c4 A C d w hs h).mono ?_
  rintro e w' ⟨⟨xs, ⟨_, wn, sh, hl, rfl⟩ | ⟨q, _⟩, ao, cap, he, ho⟩, hb⟩
  · rw [lst_len] at he ho
    exact ⟨⟨wn, sh, hl, ao, cap, he, (ho.congr fun k hk => by rw [lst_get sh d.nN k hk]).sl⟩, hb⟩
  · exact absurd hR q

set_option maxHeartbeats 2000000 in
theorem roomFor_any (a1 a2 a3 a4 : Option Addr) (c1 c2 c3 c4 : Nat) (A : Nat → Option Addr) (C : Nat → Nat) (d : RD) (S : Nat) (sv : Int) (w : World) (hR : Right d) (hSN : S < d.nN) (h0 : -1 ≤ sv) (h3 : sv ≤ 3) (h : RowAt w a1 a2 a3 a4 A C d) :
    Calls Try.prog 56 #[.agg #[.slice a1 d.nN c1, .slice a2 d.nF c2, .slice a3 d.nO c3, .slice a4 d.nW c4], .int .i64 S, .int .i64 sv] w fun e w' =>
      e = .returned (.int .i64 (rm d sv.toNat S)) ∧ Below w.heap.size w w' := by
  have bel : Below w.heap.size w (w.alloc (.cells #[.slice a1 d.nN c1, .slice a2 d.nF c2, .slice a3 d.nO c3, .slice a4 d.nW c4] 27)) := (Below.refl _ _).alloc (Nat.le_refl _) _
  have HK : Hid (RowAt (w.alloc (.cells #[.slice a1 d.nN c1, .slice a2 d.nF c2, .slice a3 d.nO c3, .slice a4 d.nW c4] 27)) a1 a2 a3 a4 A C d) := h.keep bel
  have hbk := Blk.new w #[.slice a1 d.nN c1, .slice a2 d.nF c2, .slice a3 d.nO c3, .slice a4 d.nW c4] 27
  have h60 : d.nN ≤ 60 := hR.s.nN
  have HF : Hid (d.nF = d.nN) := hR.s.nF
  have HR : Hid (Right d) := hR
  clear h hR
  go_enter Try.func56, Try.ntmps56
  go_wp2_with fail
  generalize (w.alloc (.cells #[.slice a1 d.nN c1, .slice a2 d.nF c2, .slice a3 d.nO c3, .slice a4 d.nW c4] 27)) = W at *
  have b0 := hbk.cell 0
  have b1 := hbk.cell 1
  have b2 := hbk.cell 2
  have b3 := hbk.cell 3
  simp at b0 b1 b2 b3
  clear hbk
  go_wp2
  go_loopg [7, 8, 9] sv.toNat (fun g f t a wr => ∃ (F T aa : Int), f = .int .i64 F ∧ t = .int .i64 T ∧ a = .int .i64 aa ∧ aa.toNat = g ∧ -1 ≤ aa ∧ aa ≤ 3 ∧ 0 ≤ F ∧ F + 1000000 * (g : Int) ≤ 3000000 ∧ -1 ≤ T ∧ T < d.nN ∧ F + rm d g T = rm d sv.toNat S ∧ wr = W)
  case atStart => exact ⟨0, S, sv, rfl, rfl, by go_num, rfl, h0, h3, by omega, by omega, by omega, by omega, by omega, rfl⟩
  case round =>
    obtain ⟨F, T, aa, rfl, rfl, rfl, hg, q1, q2, q3, q4, q5, q6, q7, rfl⟩ := hrel
    have HS : Hid (F + rm d gk T = rm d sv.toNat S) := q7
    clear q7
    by_cases ht : T = -1
    · have z3 : (T != -1) = false := by rw [bne_eq_false_iff_eq]; exact ht
      have HE : Hid (rm d sv.toNat S = F) := by
        show _ = _
        rw [← HS.out]
        cases gk with
        | zero => simp [rm]
        | succ g' => unfold rm; rw [if_pos (by omega)]; omega
      clear ht
      go_wp2
      go_ret
      exact ⟨by rw [HE.out]; rfl, bel⟩
    have z3 : (T != -1) = true := by rw [bne_iff_ne]; exact ht
    by_cases ha : 0 < aa
    · obtain ⟨J, rfl⟩ : ∃ J : Nat, T = J := ⟨T.toNat, by omega⟩
      have hJ : J < d.nN := by omega
      obtain ⟨bx, ox, rfl, hcx⟩ := HK.out.nx J hJ
      obtain ⟨bf, of, rfl, hcf⟩ := HK.out.fr J (by rw [HF.out]; exact hJ)
      have hw := HR.out.w J hJ
      have hfl : J < d.nF := by rw [HF.out]; exact hJ
      obtain ⟨g', rfl⟩ : ∃ g', gk = g' + 1 := ⟨gk - 1, by omega⟩
      have HN : Hid (F + d.fr J + rm d g' (d.nx J) = rm d sv.toNat S) := by
        have e : rm d (g' + 1) (J : Int) = d.fr J + rm d g' (d.nx J) := by
          show (if (J : Int) < 0 then 0 else d.fr (J : Int).toNat + rm d g' (d.nx (J : Int).toNat)) = _
          rw [if_neg (by omega), Int.toNat_natCast]
        have h1 := HS.out
        rw [e] at h1
        show _ = _
        omega
      have hw1 := hw.1
      have hw2 := hw.2
      clear hw ht
      go_wp2
      go_roundg g'
      case measure => omega
      case rel => exact ⟨F + d.fr J, d.nx J, aa - 1, rfl, rfl, rfl, by omega, by omega, by omega, by omega, by omega, hw1.1, hw1.2, HN.out, rfl⟩
    · have z4 : decide (0 < aa) = false := by simp; omega
      have HE : Hid (rm d sv.toNat S = F) := by
        show _ = _
        obtain rfl : gk = 0 := by omega
        rw [← HS.out]
        simp [rm]
      clear ht
      go_wp2
      go_ret
      exact ⟨by rw [HE.out]; rfl, bel⟩

set_option maxHeartbeats 2000000 in
theorem implRoom_any (a1 a2 a3 a4 : Option Addr) (c1 c2 c3 c4 : Nat) (A : Nat → Option Addr) (C : Nat → Nat) (d : RD) (s : Int) (w : World) (hs : Small d) (h : RowAt w a1 a2 a3 a4 A C d) :
    Calls Try.prog 27 #[.agg #[.slice a1 d.nN c1, .slice a2 d.nF c2, .slice a3 d.nO c3, .slice a4 d.nW c4], .int .i64 s] w fun e w' =>
      (∃ r, IsRoom d s r ∧ e = .returned (.int .i64 r)) ∧ Below w.heap.size w w' := by
  have bel : Below w.heap.size w (w.alloc (.cells #[.slice a1 d.nN c1, .slice a2 d.nF c2, .slice a3 d.nO c3, .slice a4 d.nW c4] 27)) := (Below.refl _ _).alloc (Nat.le_refl _) _
  have hk := h.keep bel
  have hbk := Blk.new w #[.slice a1 d.nN c1, .slice a2 d.nF c2, .slice a3 d.nO c3, .slice a4 d.nW c4] 27
  clear h
  go_enter Try.func27, Try.ntmps27
  go_wp2_with fail
  generalize (w.alloc (.cells #[.slice a1 d.nN c1, .slice a2 d.nF c2, .slice a3 d.nO c3, .slice a4 d.nW c4] 27)) = W at *
  refine (hasSignal_any a1 a2 a3 a4 c1 c2 c3 c4 A C d s W hs hk).mono ?_
  rintro e w1 ⟨⟨bb, rfl, hsay⟩, hb1⟩
  have bel1 : Below w.heap.size w w1 := chain bel hb1
  cases bb with
  | false =>
    have HB : Hid (IsRoom d s (-1)) := Or.inr ⟨(fun u => by have := hsay.2 u; cases this), rfl⟩
    clear hk hbk hb1 hsay hs
    go_wp2
    go_ret
    exact ⟨⟨-1, HB.out, rfl⟩, bel1⟩
  | true =>
  have hR := hsay.1 rfl
  have HR : Hid (Right d ∧ 0 ≤ s ∧ s < d.nN) := hR
  have h60 := hR.1.s.nN
  obtain ⟨-, g1, g2⟩ := hR
  obtain ⟨S, rfl⟩ : ∃ S : Nat, s = S := ⟨s.toNat, by omega⟩
  have hSN : S < d.nN := by omega
  have hk1 := hk.keep hb1
  have hbr := hbk.keep hb1
  have b0 := hbr.cell 0
  have b1 := hbr.cell 1
  have b2 := hbr.cell 2
  have b3 := hbr.cell 3
  simp at b0 b1 b2 b3
  clear hbk hk hb1 bel hsay
  go_wp2_with fail
  go_region_with (first
    | (go_at_call 15; refine (shows_at a1 a2 a3 a4 c1 c2 c3 c4 A C d _ hs HR.out.1 ?_).mono ?_; exact hk1.drew; rintro e w2 ⟨⟨wn, sh, hl, ao, cap, rfl, hsl⟩, hb2⟩; have hk2 := hk1.drew.keep hb2; have hbr2 := hbr.drew.keep hb2; have y0 := hbr2.cell 0; have y1 := hbr2.cell 1; have y2 := hbr2.cell 2; have y3 := hbr2.cell 3; simp at y0 y1 y2 y3; obtain ⟨bs, os, rfl, hcs⟩ := hsl S hSN; have hbd := (hl.bd HR.out.1.inside S hSN).2.2; have bel2 : Below w.heap.size w w2 := chain bel1.drew hb2)
    | (go_at_call 56; refine (roomFor_any a1 a2 a3 a4 c1 c2 c3 c4 A C d S (sh S) _ HR.out.1 hSN hbd.1 hbd.2 ?_).mono ?_; exact hk2; rintro e w3 ⟨rfl, hb3⟩))
  all_goals
    go_wp2
    go_ret
    exact ⟨⟨_, Or.inl ⟨HR.out.1, by omega, by omega, wn, sh, hl, rfl⟩, rfl⟩, chain bel2 hb3⟩

end Go.Proofs.Ytachkoledebanaa
