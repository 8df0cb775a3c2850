/-
  Speed: the document's.
-/
import Derived.Test.YtachkoledebanaaRm2
import Derived.Test.YtachkoledebanaaSpdD
namespace Go.Proofs.Ytachkoledebanaa
open Go.RowKit

set_option maxHeartbeats 1000000 in
theorem l3slow_any (v b : Int) (h0 : 0 ≤ v) (h1 : v ≤ 10000) (hb : 10 ≤ b) (hb1 : b ≤ 1000) (w : World) :
    Calls Try.prog 62 #[.int .i64 v, .int .i64 b] w fun e w' => e = .returned (.int .i64 (slow b v)) ∧ w' = w := by
  have hbd := slow_bd hb v.toNat v h0 (by omega) h1
  go_enter Try.func62, Try.ntmps62
  go_wp2
  go_loop [0, 5] (fun x f => ∃ V F : Int, x = .int .i64 V ∧ f = .int .i64 F ∧ -1000 ≤ V ∧ V ≤ v ∧ 0 ≤ F ∧ F ≤ slow b v ∧ ((0 < V ∧ F + slow b V = slow b v) ∨ (V ≤ 0 ∧ F = slow b v))) (fun x _ => (intOf x).toNat)
  case atStart =>
    refine ⟨v, 0, rfl, rfl, by omega, by omega, by omega, hbd.1, ?_⟩
    by_cases e : 0 < v
    · exact Or.inl ⟨e, by omega⟩
    · exact Or.inr ⟨by omega, by rw [slow_small h0 (by omega) (by omega)]⟩
  case round =>
    obtain ⟨V, F, rfl, rfl, q1, q2, q3, q4, hc⟩ := hrel
    by_cases e : 0 < V
    · have hF : F + slow b V = slow b v := by
        rcases hc with ⟨_, h⟩ | ⟨h, _⟩
        · exact h
        · omega
      by_cases e2 : 0 < V - b
      · have hs := slow_step (b := b) (v := V) (by omega) (by omega)
        have hp := slow_bd hb (V - b).toNat (V - b) (by omega) (by omega) (by omega)
        have HN : Hid (F + (V - b) + slow b (V - b) = slow b v) := by show _ = _; omega
        have HL : Hid (F + (V - b) ≤ slow b v) := by show _ ≤ _; omega
        clear hc hs hF
        generalize slow b v = tot at *
        go_wp2
        go_round
        case rel => exact ⟨V - b, F + (V - b), rfl, rfl, by omega, by omega, by omega, HL.out, Or.inl ⟨e2, HN.out⟩⟩
        case measure => simp [intOf]; omega
      · have hs := slow_small (b := b) (v := V) (by omega) (by omega) (by omega)
        have HN : Hid (F = slow b v) := by show _ = _; omega
        clear hc hs hF
        generalize slow b v = tot at *
        go_wp2
        go_round
        case rel => exact ⟨V - b, F, rfl, rfl, by omega, by omega, by omega, q4, Or.inr ⟨by omega, HN.out⟩⟩
        case measure => simp [intOf]; omega
    · have HN : Hid (F = slow b v) := by
        rcases hc with ⟨h, _⟩ | ⟨_, h⟩
        · omega
        · exact h
      clear hc hbd
      go_wp2
      go_ret
      exact ⟨by rw [← HN.out]; rfl, rfl⟩

set_option maxHeartbeats 4000000 in
theorem specSpeed_any (a1 a2 a3 a4 : Option Addr) (c1 c2 c3 c4 : Nat) (A : Nat → Option Addr) (C : Nat → Nat) (d : RD) (s b de : Int) (w : World) (hs : Small d) (h : RowAt w a1 a2 a3 a4 A C d) :
    Calls Try.prog 32 #[.agg #[.slice a1 d.nN c1, .slice a2 d.nF c2, .slice a3 d.nO c3, .slice a4 d.nW c4], .int .i64 s, .int .i64 b, .int .i64 de] w fun e w' =>
      (∃ r, IsSpeed d s b de r ∧ e = .returned (.int .i64 r)) ∧ Below w.heap.size w w' := by
  have bel : Below w.heap.size w (w.alloc (.cells #[.slice a1 d.nN c1, .slice a2 d.nF c2, .slice a3 d.nO c3, .slice a4 d.nW c4] 27)) := (Below.refl _ _).alloc (Nat.le_refl _) _
  have hk := h.keep bel
  have hbk := Blk.new w #[.slice a1 d.nN c1, .slice a2 d.nF c2, .slice a3 d.nO c3, .slice a4 d.nW c4] 27
  clear h
  go_enter Try.func32, Try.ntmps32
  go_wp2_with fail
  generalize (w.alloc (.cells #[.slice a1 d.nN c1, .slice a2 d.nF c2, .slice a3 d.nO c3, .slice a4 d.nW c4] 27)) = W at *
  refine (specRoom_any a1 a2 a3 a4 c1 c2 c3 c4 A C d s W hs hk).mono ?_
  rintro e w1 ⟨⟨room, hroom, rfl⟩, hb1⟩
  have bel1 : Below w.heap.size w w1 := chain bel hb1
  have HRM : Hid (IsRoom d s room) := hroom
  by_cases hok : SpOk d s b de
  case neg =>
    have HB : Hid (IsSpeed d s b de (-1)) := Or.inr ⟨hok, rfl⟩
    clear hk hbk hb1 hs hroom
    by_cases q1 : room < 0
    · have z : decide (room < 0) = true := by simp; omega
      go_wp2
      go_ret
      exact ⟨⟨-1, HB.out, rfl⟩, bel1⟩
    have z : decide (room < 0) = false := by simp; omega
    have hin : Right d ∧ 0 ≤ s ∧ s < d.nN := by
      rcases HRM.out with ⟨a, b', c, _⟩ | ⟨_, e⟩
      · exact ⟨a, b', c⟩
      · omega
    by_cases q2 : 10 ≤ b
    case neg =>
      go_wp2_with (go_at_call 58; go_in)
      go_ret
      exact ⟨⟨-1, HB.out, rfl⟩, bel1⟩
    by_cases q3 : b ≤ 1000
    case neg =>
      have z3 : decide (b ≤ 1000) = false := by simp; omega
      go_wp2_with (go_at_call 58; go_in)
      go_ret
      exact ⟨⟨-1, HB.out, rfl⟩, bel1⟩
    by_cases q4 : 0 ≤ de
    case neg =>
      go_wp2_with (go_at_call 58; go_in)
      go_ret
      exact ⟨⟨-1, HB.out, rfl⟩, bel1⟩
    have q5 : ¬ de ≤ 20 := fun q5 => hok ⟨hin.1, hin.2.1, hin.2.2, q2, q3, q4, q5⟩
    have z3 : decide (de ≤ 20) = false := by simp; omega
    go_wp2_with (go_at_call 58; go_in)
    go_ret
    exact ⟨⟨-1, HB.out, rfl⟩, bel1⟩
  have HOK : Hid (SpOk d s b de) := hok
  obtain ⟨hR, s0, s1, b0', b1', d0, d1⟩ := hok
  obtain ⟨S, rfl⟩ : ∃ S : Nat, s = S := ⟨s.toNat, by omega⟩
  have hSN : S < d.nN := by omega
  have h60 := hR.s.nN
  have HRI : Hid (Right d) := hR
  have hrb : 0 ≤ room ∧ room ≤ 1000000000 := by
    rcases hroom with ⟨_, _, _, wn0, sh0, hl0, e⟩ | ⟨q, _⟩
    · have h1 := rm_bd hR (sh0 S).toNat S (by omega) (by omega)
      have h2 := (hl0.bd hR.inside S hSN).2.2
      rw [Int.toNat_natCast] at e
      omega
    · exact absurd ⟨hR, s0, s1⟩ q
  have z : decide (room < 0) = false := by simp; omega
  have hk1 := hk.keep hb1
  have hbr := hbk.keep hb1
  have b0 := hbr.cell 0
  have b1 := hbr.cell 1
  have b2 := hbr.cell 2
  have b3 := hbr.cell 3
  simp at b0 b1 b2 b3
  clear hk hbk hb1 bel hs hroom hR
  go_wp2_with (first | (go_at_call 58; go_in) | fail)
  refine (l2both_any a1 a2 a3 a4 c1 c2 c3 c4 A C d w1 hk1 HRI.out).mono ?_
  rintro e w2 ⟨⟨wn, sh, hl, ⟨ao, ca, bo, cb, rfl, -, hbo⟩⟩, hb2⟩
  have bel2 : Below w.heap.size w w2 := chain bel1 hb2
  have HL : Hid (Least d d.nN wn sh) := hl
  have HE : Hid (room = rm d (sh S).toNat S) := by
    rcases HRM.out with ⟨_, _, _, wn0, sh0, hl0, e⟩ | ⟨q, _⟩
    · show _ = _
      rw [e, Int.toNat_natCast, (hl0.one HRI.out.inside hl).2 S hSN]
    · exact absurd ⟨HRI.out, s0, s1⟩ q
  obtain ⟨bs, rfl, _, _, hcs, _⟩ := hbo S hSN
  replace hcs : w2.cell? ⟨bs, S, none⟩ = some (.int .i64 (sh S)) := hcs
  clear hk1 hbr hb2 bel1 hl hbo b0 b1 b2 b3 HRM
  by_cases h1 : sh S ≤ 0
  · have HI : Hid (IsSpeed d S b de 0) := Or.inl ⟨HOK.out, wn, sh, HL.out, Or.inl ⟨by rw [Int.toNat_natCast]; exact h1, rfl⟩⟩
    go_wp2
    go_ret
    exact ⟨⟨0, HI.out, rfl⟩, bel2⟩
  have HI : Hid (∀ r, Best b de room r → IsSpeed d S b de r) := fun r hr => Or.inl ⟨HOK.out, wn, sh, HL.out, Or.inr ⟨by rw [Int.toNat_natCast]; omega, by rw [Int.toNat_natCast, ← HE.out]; exact hr⟩⟩
  have hc0 : cost b de 0 = 0 := by unfold cost; rw [slow_small (by omega) (by omega) (by omega)]; simp
  go_wp2
  go_loopw [12, 13] (fun x t wr => ∃ V : Nat, V ≤ 10001 ∧ t = .int .i64 V ∧ x = .int .i64 ((V - 1 : Nat) : Int) ∧ (∀ u : Int, 0 ≤ u → u < V → cost b de u ≤ room) ∧ wr = w2) (fun _ t _ => 10001 - (intOf t).toNat)
  case atStart => exact ⟨0, by omega, rfl, rfl, fun u h0 h1 => by omega, rfl⟩
  case round =>
    obtain ⟨V, hV, rfl, rfl, hall, rfl⟩ := hrel
    have HALL : Hid (∀ u : Int, 0 ≤ u → u < V → cost b de u ≤ room) := hall
    by_cases hlt : V ≤ 10000
    · have hsl := l3slow_any V b (by omega) (by omega) b0' b1' wr
      have hsb := slow_bd b0' V V (by omega) (by omega) (by omega)
      have hm : 0 ≤ de * (V : Int) ∧ de * (V : Int) ≤ 200000 := ⟨Int.mul_nonneg d0 (by omega), by have := Int.mul_le_mul d1 (show (V : Int) ≤ 10000 by omega) (by omega) (by omega); omega⟩
      have HC : Hid (cost b de V = de * (V : Int) + slow b V) := rfl
      generalize slow b (V : Int) = sv at *
      clear hall
      go_wp2_with fail
      refine hsl.mono ?_
      rintro e w3 ⟨rfl, rfl⟩
      by_cases hgt : room < de * (V : Int) + sv
      · have hV1 : 1 ≤ V := by
          cases V with
          | zero =>
            have h1 := HC.out
            have h2 : cost b de ((0 : Nat) : Int) = 0 := hc0
            omega
          | succ V => omega
        have HB : Hid (IsSpeed d S b de ((V - 1 : Nat) : Int)) := HI.out _ ⟨by omega, by omega, fun u h0 h1 => HALL.out u h0 (by omega), Or.inr (by rw [show (((V - 1 : Nat) : Int) + 1) = V by omega, HC.out]; exact hgt)⟩
        clear hsl
        go_wp2
        go_ret
        exact ⟨⟨_, HB.out, rfl⟩, bel2⟩
      · have HN : Hid (∀ u : Int, 0 ≤ u → u < ((V + 1 : Nat) : Int) → cost b de u ≤ room) := fun u h0 h1 => by
          by_cases e : u = V
          · rw [e, HC.out]; omega
          · exact HALL.out u h0 (by omega)
        clear hsl
        go_wp2
        go_roundw
        case rel => exact ⟨V + 1, by omega, by go_num, by simp, HN.out, trivial⟩
        case measure => simp [intOf]; omega
    · obtain rfl : V = 10001 := by omega
      have HB : Hid (IsSpeed d S b de 10000) := HI.out _ ⟨by omega, by omega, fun u h0 h1 => HALL.out u h0 (by omega), Or.inl rfl⟩
      clear hall
      go_wp2
      go_ret
      exact ⟨⟨_, HB.out, rfl⟩, bel2⟩

end Go.Proofs.Ytachkoledebanaa
