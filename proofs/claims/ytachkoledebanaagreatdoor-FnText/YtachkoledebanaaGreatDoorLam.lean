/-
  Lamps as bits: lampBits' methods, math/bits.Len8.
-/
import Derived.Test.YtachkoledebanaaGreatDoorShow
namespace Go.Proofs.YtachkoledebanaaGreatDoor
open Go.RowKit

/-- four lamps as a number -/
def enc (f : Nat → Bool) : Int := (if f 0 then 1 else 0) + (if f 1 then 2 else 0) + (if f 2 then 4 else 0) + (if f 3 then 8 else 0)

/-- how many bits -/
def l8 (x : Nat) : Int := if x = 0 then 0 else if x = 1 then 1 else if x < 4 then 2 else if x < 8 then 3 else 4

set_option maxHeartbeats 1000000 in
set_option maxRecDepth 100000 in
theorem len8_any (x : Nat) (hx : x < 16) (w : World) :
    Calls Tryz.prog 79 #[.int .u8 x] w fun e w' => e = .returned (.int .i64 (l8 x)) ∧ w' = w := by
  have hc : x = 0 ∨ x = 1 ∨ x = 2 ∨ x = 3 ∨ x = 4 ∨ x = 5 ∨ x = 6 ∨ x = 7 ∨ x = 8 ∨ x = 9 ∨ x = 10 ∨ x = 11 ∨ x = 12 ∨ x = 13 ∨ x = 14 ∨ x = 15 := by omega
  go_enter Tryz.func79, Tryz.ntmps79
  rcases hc with rfl | rfl | rfl | rfl | rfl | rfl | rfl | rfl | rfl | rfl | rfl | rfl | rfl | rfl | rfl | rfl
  all_goals
    go_wp2
    go_ret
    exact ⟨by kernel_rfl, rfl⟩

/-- what is left of the lamps up to a -/
def low (b0 b1 b2 b3 : Bool) (a : Nat) : Nat := ((if b0 then 1 else 0) + (if b1 then 2 else 0) + (if b2 then 4 else 0) + (if b3 then 8 else 0)) % 2 ^ (a + 1)

theorem masked {f : Nat → Bool} {a : Int} (h0 : 0 ≤ a) (h3 : a ≤ 3) : ∃ m : Nat, m < 16 ∧ bits .and .u8 (enc f) ((2 ^ (a + 1).toNat - 1) % 256) = (m : Int) ∧ lamp f a = l8 m - 1 := by
  have hc : a = 0 ∨ a = 1 ∨ a = 2 ∨ a = 3 := by omega
  refine ⟨low (f 0) (f 1) (f 2) (f 3) a.toNat, ?_⟩
  unfold enc
  rcases hc with rfl | rfl | rfl | rfl
  all_goals
    have e0 : lampN f 0 = if f 0 = true then 0 else -1 := rfl
    have e1 : lampN f 1 = if f 1 = true then 1 else lampN f 0 := rfl
    have e2 : lampN f 2 = if f 2 = true then 2 else lampN f 1 := rfl
    have e3 : lampN f 3 = if f 3 = true then 3 else lampN f 2 := rfl
    simp only [lamp, show ¬ ((0 : Int) < 0) by omega, show ¬ ((1 : Int) < 0) by omega, show ¬ ((2 : Int) < 0) by omega, show ¬ ((3 : Int) < 0) by omega, if_false, show (0 : Int).toNat = 0 from rfl, show (1 : Int).toNat = 1 from rfl, show (2 : Int).toNat = 2 from rfl, show (3 : Int).toNat = 3 from rfl, e0, e1, e2, e3]
    clear e0 e1 e2 e3
    generalize f 0 = b0
    generalize f 1 = b1
    generalize f 2 = b2
    generalize f 3 = b3
    revert b0 b1 b2 b3
    decide

theorem enc_bd (f : Nat → Bool) : 0 ≤ enc f ∧ enc f < 16 := by unfold enc; repeat' split
                                                               all_goals omega

set_option maxHeartbeats 1000000 in
theorem greatestUpTo_any (f : Nat → Bool) (a : Int) (h0 : 0 ≤ a) (h3 : a ≤ 3) (w : World) :
    Calls Tryz.prog 62 #[.int .u8 (enc f), .int .i64 a] w fun e w' => e = .returned (.int .i64 (lamp f a)) ∧ w' = w := by
  obtain ⟨m, hm, hb, hl⟩ := masked (f := f) h0 h3
  obtain ⟨hb0, hb1⟩ := enc_bd f
  rw [hl]
  have HB : Hid (bits .and .u8 (enc f) ((2 ^ (a + 1).toNat - 1) % 256) = (m : Int)) := hb
  go_enter Tryz.func62, Tryz.ntmps62
  by_cases hz : m = 0
  · subst hz
    clear hl
    have z : (bits .and .u8 (enc f) ((2 ^ (a + 1).toNat - 1) % 256) == 0) = true := by rw [hb]; rfl
    clear hb
    go_wp2
    go_ret
    exact ⟨rfl, rfl⟩
  · have z : (bits .and .u8 (enc f) ((2 ^ (a + 1).toNat - 1) % 256) == 0) = false := by rw [hb, beq_eq_false_iff_ne]; omega
    clear hb hl
    go_wp2_with fail
    rw [HB.out]
    refine (len8_any m hm w).mono ?_
    rintro e w' ⟨rfl, rfl⟩
    have hl8 : 0 ≤ l8 m ∧ l8 m ≤ 4 := by unfold l8; (repeat' split) <;> omega
    go_wp2
    go_ret
    exact ⟨rfl, rfl⟩

/-- of the first k lamps -/
def encK (f : Nat → Bool) (k : Nat) : Int := enc (fun i => decide (i < k) && f i)
theorem encK_no {f : Nat → Bool} {k : Nat} (hk : k < 4) (h : f k = false) : encK f (k + 1) = encK f k := by
  have hc : k = 0 ∨ k = 1 ∨ k = 2 ∨ k = 3 := by omega
  unfold encK enc
  rcases hc with rfl | rfl | rfl | rfl
  all_goals simp [h]
theorem encK_yes {f : Nat → Bool} {k : Nat} (hk : k < 4) (h : f k = true) : bits .or .u8 (encK f k) (2 ^ k % 256) = encK f (k + 1) := by
  have hc : k = 0 ∨ k = 1 ∨ k = 2 ∨ k = 3 := by omega
  unfold encK enc
  rcases hc with rfl | rfl | rfl | rfl
  all_goals
    simp [h]
    generalize f 0 = b0
    generalize f 1 = b1
    generalize f 2 = b2
    revert b0 b1 b2
    decide
theorem enc_four (f : Nat → Bool) : encK f 4 = enc f := by simp [encK, enc]

set_option maxHeartbeats 1000000 in
theorem with_any (f : Nat → Bool) (k : Nat) (hk : k < 4) (h : f k = true) (w : World) :
    Calls Tryz.prog 78 #[.int .u8 (encK f k), .int .i64 k] w fun e w' => e = .returned (.int .u8 (encK f (k + 1))) ∧ w' = w := by
  obtain ⟨hb0, hb1⟩ := enc_bd (fun i => decide (i < k) && f i)
  go_enter Tryz.func78, Tryz.ntmps78
  go_wp2
  go_ret
  exact ⟨by show Ending.returned (Value.int .u8 (bits .or .u8 (encK f k) (2 ^ k % 256))) = _; rw [encK_yes hk h], rfl⟩

/-- one lamp less -/
def less (f : Nat → Bool) (k : Nat) : Nat → Bool := fun i => if i = k then false else f i
theorem enc_less {f : Nat → Bool} {k : Nat} (hk : k < 4) : bits .andNot .u8 (enc f) (2 ^ k % 256) = enc (less f k) := by
  have hc : k = 0 ∨ k = 1 ∨ k = 2 ∨ k = 3 := by omega
  unfold enc less
  rcases hc with rfl | rfl | rfl | rfl
  all_goals
    simp
    generalize f 0 = b0
    generalize f 1 = b1
    generalize f 2 = b2
    generalize f 3 = b3
    revert b0 b1 b2 b3
    decide

set_option maxHeartbeats 1000000 in
theorem lampBitsOf_any (ao : Option Addr) (cap : Nat) (f : Nat → Bool) (w : World) (h : SlAt w ao 4 (fun k => .bool (f k))) :
    Calls Tryz.prog 61 #[.slice ao 4 cap] w fun e w' => e = .returned (.int .u8 (enc f)) ∧ w' = w := by
  go_enter Tryz.func61, Tryz.ntmps61
  go_wp2
  go_loopw [3, 8] (fun l i wr => ∃ k : Nat, k ≤ 4 ∧ i = .int .i64 k ∧ l = .int .u8 (encK f k) ∧ wr = w) (fun _ i _ => 4 - (intOf i).toNat)
  case atStart => exact ⟨0, Nat.zero_le _, rfl, rfl, rfl⟩
  case round =>
    obtain ⟨k, hk, rfl, rfl, rfl⟩ := hrel
    by_cases hlt : k < 4
    · obtain ⟨b, o, rfl, hc⟩ := h k hlt
      clear h
      cases hf : f k with
      | false =>
        simp only [hf] at hc
        have HE : Hid (encK f (k + 1) = encK f k) := encK_no hlt hf
        go_wp2
        go_roundw
        case rel => exact ⟨k + 1, by omega, by go_num, by rw [HE.out], trivial⟩
        case measure => simp [intOf]; omega
      | true =>
        simp only [hf] at hc
        have hw := with_any f k hlt hf wr
        go_wp2_with fail
        refine hw.mono ?_
        rintro e w1 ⟨rfl, rfl⟩
        go_wp2
        go_roundw
        case rel => exact ⟨k + 1, by omega, by go_num, rfl, trivial⟩
        case measure => simp [intOf]; omega
    · obtain rfl : k = 4 := by omega
      have HE : Hid (encK f 4 = enc f) := enc_four f
      clear h
      go_wp2
      go_ret
      exact ⟨by rw [← HE.out]; rfl, rfl⟩

end Go.Proofs.YtachkoledebanaaGreatDoor
