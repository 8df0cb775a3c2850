/-
  Room and Stop: the document's.
-/
import Derived.Test.YtachkoledebanaaRm
import Derived.Deep.LoopGhost
namespace Go.Proofs.Ytachkoledebanaa
open Go.RowKit

set_option maxHeartbeats 2000000 in
theorem specRoom_any (a1 a2 a3 a4 : Option Addr) (c1 c2 c3 c4 : Nat) (A : Nat → Option Addr) (C : Nat → Nat) (d : RD) (s : Int) (w : World) (hs : Small d) (h : RowAt w a1 a2 a3 a4 A C d) :
    Calls Try.prog 29 #[.agg #[.slice a1 d.nN c1, .slice a2 d.nF c2, .slice a3 d.nO c3, .slice a4 d.nW c4], .int .i64 s] w fun e w' =>
      (∃ r, IsRoom d s r ∧ e = .returned (.int .i64 r)) ∧ Below w.heap.size w w' := by
  have bel : Below w.heap.size w (w.alloc (.cells #[.slice a1 d.nN c1, .slice a2 d.nF c2, .slice a3 d.nO c3, .slice a4 d.nW c4] 27)) := (Below.refl _ _).alloc (Nat.le_refl _) _
  have hk := h.keep bel
  have hbk := Blk.new w #[.slice a1 d.nN c1, .slice a2 d.nF c2, .slice a3 d.nO c3, .slice a4 d.nW c4] 27
  clear h
  go_enter Try.func29, Try.ntmps29
  go_wp2_with fail
  generalize (w.alloc (.cells #[.slice a1 d.nN c1, .slice a2 d.nF c2, .slice a3 d.nO c3, .slice a4 d.nW c4] 27)) = W at *
  refine (specRowOk_any a1 a2 a3 a4 c1 c2 c3 c4 A C d W hs hk).mono ?_
  rintro e w1 ⟨⟨r, rfl, hr⟩, hb1⟩
  have bel1 : Below w.heap.size w w1 := chain bel hb1
  by_cases hr0 : r = 0
  case neg =>
    have z : (r != 0) = true := by rw [bne_iff_ne]; exact hr0
    have HB : Hid (IsRoom d s (-1)) := Or.inr ⟨fun u => hr0 (hr.zero u.1), rfl⟩
    clear hk hbk hb1 hr hs
    go_wp2
    go_ret
    exact ⟨⟨-1, HB.out, rfl⟩, bel1⟩
  subst hr0
  have hR : Hid (Right d) := hr.rt
  have h60 : d.nN ≤ 60 := hR.out.s.nN
  have z : ((0 : Int) != 0) = false := by simp
  have hk1 := hk.keep hb1
  have hbr := hbk.keep hb1
  have b0 := hbr.cell 0
  have b1 := hbr.cell 1
  have b2 := hbr.cell 2
  have b3 := hbr.cell 3
  simp at b0 b1 b2 b3
  clear hbk hk hb1 bel hr
  by_cases g1 : 0 ≤ s
  case neg =>
    have HB : Hid (IsRoom d s (-1)) := Or.inr ⟨fun u => g1 u.2.1, rfl⟩
    clear hk1 hs hbr
    go_wp2
    go_ret
    exact ⟨⟨-1, HB.out, rfl⟩, bel1⟩
  by_cases g2 : s < d.nN
  case neg =>
    have HB : Hid (IsRoom d s (-1)) := Or.inr ⟨fun u => g2 u.2.2, rfl⟩
    have z2 : decide (s ≤ (d.nN : Int) - 1) = false := by simp; omega
    clear hk1 hs hbr
    go_wp2
    go_ret
    exact ⟨⟨-1, HB.out, rfl⟩, bel1⟩
  have z2 : decide (s ≤ (d.nN : Int) - 1) = true := by simp; omega
  obtain ⟨S, rfl⟩ : ∃ S : Nat, s = S := ⟨s.toNat, by omega⟩
  have hSN : S < d.nN := by omega
  clear hs
  go_wp2_with (first | (go_at_call 58; go_in) | fail)
  refine (l2both_any a1 a2 a3 a4 c1 c2 c3 c4 A C d w1 hk1 hR.out).mono ?_
  rintro e w2 ⟨⟨wn, sh, hl, ⟨ao, ca, bo, cb, rfl, -, hbo⟩⟩, hb2⟩
  have bel2 : Below w.heap.size w w2 := chain bel1 hb2
  have hk2 := hk1.keep hb2
  have P2 := hbr.keep hb2
  clear b0 b1 b2 b3
  have b0 := P2.cell 0
  have b1 := P2.cell 1
  have b2 := P2.cell 2
  have b3 := P2.cell 3
  simp at b0 b1 b2 b3
  have hsb := (hl.bd hR.out.inside S hSN).2.2
  have HI : Hid (IsRoom d S (rm d (sh S).toNat S)) := Or.inl ⟨hR.out, by omega, by omega, wn, sh, hl, by simp⟩
  obtain ⟨bs, rfl, _, _, hcs, _⟩ := hbo S hSN
  replace hcs : w2.cell? ⟨bs, S, none⟩ = some (.int .i64 (sh S)) := hcs
  have HK2 : Hid (RowAt w2 a1 a2 a3 a4 A C d) := hk2
  have HF : Hid (d.nF = d.nN) := hR.out.s.nF
  clear hk1 hbr hb2 bel1 hl hbo hk2 P2
  go_wp2
  go_loopg [7, 8, 9] (sh S).toNat (fun g f t a wr => ∃ (F T aa : Int), f = .int .i64 F ∧ t = .int .i64 T ∧ a = .int .i64 aa ∧ aa.toNat = g ∧ -1 ≤ aa ∧ aa ≤ 3 ∧ 0 ≤ F ∧ F + 1000000 * (g : Int) ≤ 3000000 ∧ -1 ≤ T ∧ T < d.nN ∧ F + rm d g T = rm d (sh S).toNat S ∧ wr = w2)
  case atStart => exact ⟨0, S, sh S, rfl, rfl, rfl, rfl, hsb.1, hsb.2, by omega, by omega, by omega, by omega, by omega, rfl⟩
  case round =>
    obtain ⟨F, T, aa, rfl, rfl, rfl, hg, q1, q2, q3, q4, q5, q6, q7, rfl⟩ := hrel
    have HS : Hid (F + rm d gk T = rm d (sh S).toNat S) := q7
    clear q7 hcs
    by_cases ha : 0 < aa
    · by_cases ht : 0 ≤ T
      · obtain ⟨J, rfl⟩ : ∃ J : Nat, T = J := ⟨T.toNat, by omega⟩
        have hJ : J < d.nN := by omega
        obtain ⟨bx, ox, rfl, hcx⟩ := HK2.out.nx J hJ
        obtain ⟨bf, of, rfl, hcf⟩ := HK2.out.fr J (by rw [HF.out]; exact hJ)
        have hw := hR.out.w J hJ
        have hfl : J < d.nF := by rw [HF.out]; exact hJ
        obtain ⟨g', rfl⟩ : ∃ g', gk = g' + 1 := ⟨gk - 1, by omega⟩
        have HN : Hid (F + d.fr J + rm d g' (d.nx J) = rm d (sh S).toNat S) := by
          have e : rm d (g' + 1) (J : Int) = d.fr J + rm d g' (d.nx J) := by
            show (if (J : Int) < 0 then 0 else d.fr (J : Int).toNat + rm d g' (d.nx (J : Int).toNat)) = _
            rw [if_neg (by omega), Int.toNat_natCast]
          have h1 := HS.out
          rw [e] at h1
          show _ = _
          omega
        have hw1 := hw.1
        have hw2 := hw.2
        clear hw
        go_wp2
        go_roundg g'
        case measure => omega
        case rel => exact ⟨F + d.fr J, d.nx J, aa - 1, rfl, rfl, rfl, by omega, by omega, by omega, by omega, by omega, hw1.1, hw1.2, HN.out, rfl⟩
      · have z3 : decide (0 ≤ T) = false := by simp; omega
        have HE : Hid (rm d (sh S).toNat S = F) := by
          show _ = _
          rw [← HS.out]
          cases gk with
          | zero => simp [rm]
          | succ g' => unfold rm; rw [if_pos (by omega)]; omega
        go_wp2
        go_ret
        exact ⟨⟨_, HI.out, by rw [HE.out]; rfl⟩, bel2⟩
    · have z3 : decide (0 < aa) = false := by simp; omega
      have HE : Hid (rm d (sh S).toNat S = F) := by
        show _ = _
        obtain rfl : gk = 0 := by omega
        rw [← HS.out]
        simp [rm]
      go_wp2
      go_ret
      exact ⟨⟨_, HI.out, by rw [HE.out]; rfl⟩, bel2⟩

set_option maxHeartbeats 2000000 in
theorem specStop_any (a1 a2 a3 a4 : Option Addr) (c1 c2 c3 c4 : Nat) (A : Nat → Option Addr) (C : Nat → Nat) (d : RD) (s : Int) (w : World) (hs : Small d) (h : RowAt w a1 a2 a3 a4 A C d) :
    Calls Try.prog 30 #[.agg #[.slice a1 d.nN c1, .slice a2 d.nF c2, .slice a3 d.nO c3, .slice a4 d.nW c4], .int .i64 s] w fun e w' =>
      (∃ r, IsStop d s r ∧ e = .returned (.int .i64 r)) ∧ Below w.heap.size w w' := by
  have bel : Below w.heap.size w (w.alloc (.cells #[.slice a1 d.nN c1, .slice a2 d.nF c2, .slice a3 d.nO c3, .slice a4 d.nW c4] 27)) := (Below.refl _ _).alloc (Nat.le_refl _) _
  have hk := h.keep bel
  have hbk := Blk.new w #[.slice a1 d.nN c1, .slice a2 d.nF c2, .slice a3 d.nO c3, .slice a4 d.nW c4] 27
  clear h
  go_enter Try.func30, Try.ntmps30
  go_wp2_with fail
  generalize (w.alloc (.cells #[.slice a1 d.nN c1, .slice a2 d.nF c2, .slice a3 d.nO c3, .slice a4 d.nW c4] 27)) = W at *
  refine (specRowOk_any a1 a2 a3 a4 c1 c2 c3 c4 A C d W hs hk).mono ?_
  rintro e w1 ⟨⟨r, rfl, hr⟩, hb1⟩
  have bel1 : Below w.heap.size w w1 := chain bel hb1
  by_cases hr0 : r = 0
  case neg =>
    have z : (r != 0) = true := by rw [bne_iff_ne]; exact hr0
    have HB : Hid (IsStop d s (-1)) := Or.inr ⟨fun u => hr0 (hr.zero u.1), rfl⟩
    clear hk hbk hb1 hr hs
    go_wp2
    go_ret
    exact ⟨⟨-1, HB.out, rfl⟩, bel1⟩
  subst hr0
  have hR : Hid (Right d) := hr.rt
  have h60 : d.nN ≤ 60 := hR.out.s.nN
  have z : ((0 : Int) != 0) = false := by simp
  have hk1 := hk.keep hb1
  have hbr := hbk.keep hb1
  have b0 := hbr.cell 0
  have b1 := hbr.cell 1
  have b2 := hbr.cell 2
  have b3 := hbr.cell 3
  simp at b0 b1 b2 b3
  clear hbk hk hb1 bel hr
  by_cases g1 : 0 ≤ s
  case neg =>
    have HB : Hid (IsStop d s (-1)) := Or.inr ⟨fun u => g1 u.2.1, rfl⟩
    clear hk1 hs hbr
    go_wp2
    go_ret
    exact ⟨⟨-1, HB.out, rfl⟩, bel1⟩
  by_cases g2 : s < d.nN
  case neg =>
    have HB : Hid (IsStop d s (-1)) := Or.inr ⟨fun u => g2 u.2.2, rfl⟩
    have z2 : decide (s ≤ (d.nN : Int) - 1) = false := by simp; omega
    clear hk1 hs hbr
    go_wp2
    go_ret
    exact ⟨⟨-1, HB.out, rfl⟩, bel1⟩
  have z2 : decide (s ≤ (d.nN : Int) - 1) = true := by simp; omega
  obtain ⟨S, rfl⟩ : ∃ S : Nat, s = S := ⟨s.toNat, by omega⟩
  have hSN : S < d.nN := by omega
  clear hs
  go_wp2_with (first | (go_at_call 58; go_in) | fail)
  refine (l2both_any a1 a2 a3 a4 c1 c2 c3 c4 A C d w1 hk1 hR.out).mono ?_
  rintro e w2 ⟨⟨wn, sh, hl, ⟨ao, ca, bo, cb, rfl, -, hbo⟩⟩, hb2⟩
  have bel2 : Below w.heap.size w w2 := chain bel1 hb2
  have hk2 := hk1.keep hb2
  have P2 := hbr.keep hb2
  clear b0 b1 b2 b3
  have b0 := P2.cell 0
  have b1 := P2.cell 1
  have b2 := P2.cell 2
  have b3 := P2.cell 3
  simp at b0 b1 b2 b3
  have HI : Hid (IsStop d S (stp d sh (d.nN + 1) S 0)) := Or.inl ⟨hR.out, by omega, by omega, wn, sh, hl, by simp⟩
  have HK2 : Hid (RowAt w2 a1 a2 a3 a4 A C d) := hk2
  have HSH : Hid (SlAt w2 bo d.nN (fun k => .int .i64 (sh k))) := hbo.sl
  have HF : Hid (d.nF = d.nN) := hR.out.s.nF
  clear hk1 hbr hb2 bel1 hl hbo hk2 P2
  go_wp2
  go_loopg [7, 8, 9] (d.nN + 1) (fun g f t kk wr => ∃ (F : Int) (T K : Nat), K + g = d.nN + 1 ∧ f = .int .i64 F ∧ t = .int .i64 T ∧ kk = .int .i64 K ∧ T < d.nN ∧ 0 ≤ F ∧ F ≤ 1000000 * (K : Int) ∧ stp d sh g T F = stp d sh (d.nN + 1) S 0 ∧ wr = w2)
  case atStart => exact ⟨0, S, 0, Nat.zero_add _, rfl, rfl, rfl, hSN, by omega, by omega, rfl, rfl⟩
  case round =>
    obtain ⟨F, T, K, hKg, rfl, rfl, rfl, hT, q1, q2, q3, rfl⟩ := hrel
    have HS : Hid (stp d sh gk T F = stp d sh (d.nN + 1) S 0) := q3
    clear q3
    by_cases hlt : K ≤ d.nN
    · obtain ⟨g', rfl⟩ : ∃ g', gk = g' + 1 := ⟨gk - 1, by omega⟩
      have he : stp d sh (g' + 1) T F = if sh T ≤ 0 then F else if d.nx T < 0 then F + d.fr T else stp d sh g' (d.nx T).toNat (F + d.fr T) := rfl
      obtain ⟨bx, ox, rfl, hcx⟩ := HK2.out.nx T hT
      obtain ⟨bf, of, rfl, hcf⟩ := HK2.out.fr T (by rw [HF.out]; exact hT)
      obtain ⟨bs, os, rfl, hcs⟩ := HSH.out T hT
      replace hcs : wr.cell? ⟨bs, os + T, none⟩ = some (.int .i64 (sh T)) := hcs
      have hfl : T < d.nF := by rw [HF.out]; exact hT
      have hw1 := (hR.out.w T hT).1
      have hw2 := (hR.out.w T hT).2
      have zk : decide ((K : Int) ≤ (d.nN : Int)) = true := by simp; omega
      by_cases h1 : sh T ≤ 0
      · have HE : Hid (stp d sh (d.nN + 1) S 0 = F) := by show _ = _; rw [← HS.out, he, if_pos h1]
        clear he
        go_wp2
        go_ret
        exact ⟨⟨_, HI.out, by rw [HE.out]; rfl⟩, bel2⟩
      · by_cases h2 : d.nx T < 0
        · have HE : Hid (stp d sh (d.nN + 1) S 0 = F + d.fr T) := by show _ = _; rw [← HS.out, he, if_neg h1, if_pos h2]
          clear he
          go_wp2
          go_ret
          exact ⟨⟨_, HI.out, by rw [HE.out]; rfl⟩, bel2⟩
        · have HE : Hid (stp d sh g' (d.nx T).toNat (F + d.fr T) = stp d sh (d.nN + 1) S 0) := by show _ = _; rw [← HS.out, he, if_neg h1, if_neg h2]
          obtain ⟨U, hU⟩ : ∃ U : Nat, d.nx T = U := ⟨(d.nx T).toNat, by omega⟩
          have HU : Hid ((d.nx T).toNat = U) := by show _ = _; omega
          have hUN : U < d.nN := by omega
          simp only [hU] at hcx
          clear he hU h2 hw1
          have h2 : ¬ (U : Int) < 0 := by omega
          go_wp2
          go_roundg g'
          case measure => omega
          case rel => exact ⟨F + d.fr T, U, K + 1, by omega, rfl, rfl, by go_num, hUN, by omega, by omega, by rw [← HU.out]; exact HE.out, rfl⟩
    · obtain rfl : gk = 0 := by omega
      have zk : decide ((K : Int) ≤ (d.nN : Int)) = false := by simp; omega
      have HE : Hid (stp d sh (d.nN + 1) S 0 = -2) := by show _ = _; rw [← HS.out]; rfl
      go_wp2
      go_ret
      exact ⟨⟨_, HI.out, by rw [HE.out]; rfl⟩, bel2⟩

end Go.Proofs.Ytachkoledebanaa
