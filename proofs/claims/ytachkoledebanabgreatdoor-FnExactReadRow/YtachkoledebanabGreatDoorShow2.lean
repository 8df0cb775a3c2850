/-
  l2lamp, l2want: walked.
-/
import Derived.Test.YtachkoledebanabGreatDoorShow
namespace Go.Proofs.YtachkoledebanabGreatDoor
open Go.RowKit

theorem lamp_hit {f : Nat → Bool} {a : Int} (h0 : 0 ≤ a) (h : f a.toNat = true) : lamp f a = a := by
  unfold lamp
  rw [if_neg (by omega)]
  obtain ⟨k, rfl⟩ : ∃ k : Nat, a = k := ⟨a.toNat, by omega⟩
  simp only [Int.toNat_natCast] at h ⊢
  cases k with
  | zero => unfold lampN; rw [if_pos h]; rfl
  | succ k => unfold lampN; rw [if_pos h]; rfl
theorem lamp_miss {f : Nat → Bool} {a : Int} (h0 : 0 ≤ a) (h : f a.toNat = false) : lamp f a = lamp f (a - 1) := by
  obtain ⟨k, rfl⟩ : ∃ k : Nat, a = k := ⟨a.toNat, by omega⟩
  simp only [Int.toNat_natCast] at h
  cases k with
  | zero =>
    unfold lamp
    rw [if_neg (by omega), if_pos (by omega)]
    show lampN f 0 = -1
    unfold lampN
    rw [if_neg (by rw [h]; simp)]
  | succ k =>
    unfold lamp
    rw [if_neg (by omega), if_neg (by omega)]
    have e : (((k + 1 : Nat) : Int) - 1).toNat = k := by omega
    rw [e]
    show lampN f (k + 1) = lampN f k
    have e2 : lampN f (k + 1) = if f (k + 1) = true then ((k : Int) + 1) else lampN f k := rfl
    rw [e2, if_neg (by rw [h]; simp)]

set_option maxHeartbeats 400000 in
theorem l2lamp_any (ao : Option Addr) (cap : Nat) (f : Nat → Bool) (a : Int) (w : World) (h : SlAt w ao 4 (fun k => .bool (f k))) (h0 : 0 ≤ a) (h1 : a ≤ 3) :
    Calls Tryz.prog 49 #[.slice ao 4 cap, .int .i64 a] w fun e w' => e = .returned (.int .i64 (lamp f a)) ∧ w' = w := by
  go_enter Tryz.func49, Tryz.ntmps49
  go_wp2
  go_loop [5] (fun i => ∃ b : Int, i = .int .i64 b ∧ -1 ≤ b ∧ b ≤ 3 ∧ lamp f a = lamp f b) (fun i => (intOf i + 1).toNat)
  case atStart => exact ⟨a, rfl, by omega, h1, rfl⟩
  case round =>
    obtain ⟨b, rfl, q1, q2, he⟩ := hrel
    have HE : Hid (lamp f a = lamp f b) := he
    clear he
    by_cases hb : 0 ≤ b
    · obtain ⟨bb, o, rfl, hc⟩ := h b.toNat (by omega)
      clear h
      cases hf : f b.toNat with
      | true =>
        simp only [hf] at hc
        have HL : Hid (lamp f a = b) := HE.out.trans (lamp_hit hb hf)
        clear hf
        go_wp2
        go_ret
        exact ⟨ret_int HL.out.symm, rfl⟩
      | false =>
        simp only [hf] at hc
        have HL : Hid (lamp f a = lamp f (b - 1)) := HE.out.trans (lamp_miss hb hf)
        clear hf
        go_wp2
        go_round
        case rel => exact ⟨b - 1, rfl, by omega, by omega, HL.out⟩
        case measure => simp [intOf]; omega
    · have HL : Hid (lamp f a = -1) := by show _ = _; rw [HE.out]; unfold lamp; rw [if_pos (by omega)]
      clear h
      go_wp2
      go_ret
      exact ⟨ret_int HL.out.symm, rfl⟩

set_option maxHeartbeats 1000000 in
theorem l2want_any (a1 a2 a3 a4 so : Option Addr) (c1 c2 c3 c4 cs n : Nat) (A : Nat → Option Addr) (C : Nat → Nat) (d : RD) (sh : Nat → Int) (i : Nat) (w : World) (h : RowAt w a1 a2 a3 a4 A C d) (hn : n = d.nN) (hO : d.nO = d.nN) (_h60 : d.nN ≤ 60) (hin : Inside d d.nN) (hi : i < d.nN)
    (hsl : SlAt w so n (fun k => .int .i64 (sh k))) (hlo : ∀ k, k < n → -1 ≤ sh k) (hhi : ∀ k, k < n → sh k ≤ 3) :
    Calls Tryz.prog 50 #[.agg #[.slice a1 d.nN c1, .slice a2 d.nF c2, .slice a3 d.nO c3, .slice a4 d.nW c4], .slice so n cs, .int .i64 i] w fun e w' =>
      e = .returned (.int .i64 (wish d sh i)) ∧ Below w.heap.size w w' := by
  have bel : Below w.heap.size w (w.alloc (.cells #[.slice a1 d.nN c1, .slice a2 d.nF c2, .slice a3 d.nO c3, .slice a4 d.nW c4] 26)) := (Below.refl _ _).alloc (Nat.le_refl _) _
  have hk := h.keep bel
  have hs' := hsl.keep bel
  clear h hsl
  obtain ⟨b, o, rfl, hc⟩ := hk.op i (by omega)
  obtain ⟨b', o', rfl, hc'⟩ := hk.nx i hi
  have hiO : i < d.nO := by omega
  have hx := hin i hi
  clear hk hin
  cases hop : d.op i with
  | false =>
    simp only [hop] at hc
    have HW : Hid (wish d sh i = 0) := by show _ = _; unfold wish; rw [if_pos hop]
    clear hop hs' hn hO
    go_enter Tryz.func50, Tryz.ntmps50
    go_wp2
    go_ret
    exact ⟨ret_int HW.out.symm, bel⟩
  | true =>
    simp only [hop] at hc
    by_cases hneg : d.nx i < 0
    · have HW : Hid (wish d sh i = 1) := by show _ = _; unfold wish; rw [if_neg (by rw [hop]; simp), if_pos hneg]
      clear hop hs' hn hO
      go_enter Tryz.func50, Tryz.ntmps50
      go_wp2
      go_ret
      exact ⟨ret_int HW.out.symm, bel⟩
    · have q1 : 0 ≤ d.nx i := by omega
      obtain ⟨b2, o2, rfl, hc2⟩ := hs' (d.nx i).toNat (by omega)
      have l1 := hlo (d.nx i).toNat (by omega)
      have l2 := hhi (d.nx i).toNat (by omega)
      have hxn : d.nx i < (n : Int) := by omega
      clear hs' hn hO hlo hhi
      by_cases h3 : 3 < sh (d.nx i).toNat + 1
      · have HW : Hid (wish d sh i = 3) := by show _ = _; unfold wish; rw [if_neg (by rw [hop]; simp), if_neg hneg, if_pos h3]
        clear hop hneg
        go_enter Tryz.func50, Tryz.ntmps50
        go_wp2
        go_ret
        exact ⟨ret_int HW.out.symm, bel⟩
      · have HW : Hid (wish d sh i = sh (d.nx i).toNat + 1) := by show _ = _; unfold wish; rw [if_neg (by rw [hop]; simp), if_neg hneg, if_neg h3]
        clear hop hneg
        go_enter Tryz.func50, Tryz.ntmps50
        go_wp2
        go_ret
        exact ⟨ret_int HW.out.symm, bel⟩

end Go.Proofs.YtachkoledebanabGreatDoor
