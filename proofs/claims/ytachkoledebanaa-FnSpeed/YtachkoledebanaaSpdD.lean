/-
  Speed, as numbers: how far a train comes that brakes; the greatest speed.
-/
import Derived.Test.YtachkoledebanaaRm
namespace Go.Proofs.Ytachkoledebanaa
open Go.RowKit

/-- 0 + 1 + .. + (q - 1) -/
def tri : Nat → Int
  | 0 => 0
  | q + 1 => tri q + q
/-- how far a train comes that brakes from v -/
def slow (b v : Int) : Int := ((v / b).toNat : Int) * (v % b) + b * tri (v / b).toNat

theorem slow_small {b v : Int} (h0 : 0 ≤ v) (h : v ≤ b) (hb : 0 < b) : slow b v = 0 := by
  unfold slow
  by_cases e : v = b
  · subst e
    rw [Int.ediv_self (by omega), Int.emod_self]
    simp [tri]
  · rw [Int.ediv_eq_zero_of_lt h0 (by omega)]
    simp [tri]
theorem slow_step {b v : Int} (h : b ≤ v) (hb : 0 < b) : slow b v = (v - b) + slow b (v - b) := by
  unfold slow
  have e1 : (v - b) / b = v / b - 1 := by
    have := Int.add_mul_ediv_right v (-1) (show b ≠ 0 by omega)
    rw [show v + -1 * b = v - b by omega] at this
    omega
  have e2 : (v - b) % b = v % b := by
    have := Int.add_mul_emod_self_right v (-1) b
    rw [show v + -1 * b = v - b by omega] at this
    exact this
  have h1 : 1 ≤ v / b := by
    have := Int.le_ediv_of_mul_le hb (show 1 * b ≤ v by omega)
    exact this
  obtain ⟨q, hq⟩ : ∃ q : Nat, v / b = (q : Int) + 1 := ⟨(v / b - 1).toNat, by omega⟩
  have hv := Int.mul_ediv_add_emod v b
  rw [e1, e2, hq]
  rw [hq] at hv
  rw [show ((q : Int) + 1).toNat = q + 1 by omega, show ((q : Int) + 1 - 1).toNat = q by omega]
  show ((q + 1 : Nat) : Int) * (v % b) + b * (tri q + q) = _
  generalize v % b = r at *
  generalize tri q = t at *
  rw [← hv]
  push_cast
  simp only [Int.mul_add, Int.add_mul, Int.mul_one, Int.one_mul]
  omega
theorem slow_bd {b : Int} (hb : 10 ≤ b) : ∀ (n : Nat) (v : Int), 0 ≤ v → v ≤ n → v ≤ 10000 → 0 ≤ slow b v ∧ slow b v ≤ 1000 * v
  | 0, v, h0, h1, _ => by
    rw [slow_small h0 (by omega) (by omega)]; omega
  | n + 1, v, h0, h1, h2 => by
    by_cases e : v ≤ b
    · rw [slow_small h0 e (by omega)]; omega
    · rw [slow_step (by omega) (by omega)]
      have ih := slow_bd hb n (v - b) (by omega) (by omega) (by omega)
      omega

/-- what a speed costs -/
def cost (b de v : Int) : Int := de * v + slow b v
/-- the greatest speed that this room bears, and so all below it -/
def Best (b de room r : Int) : Prop := 0 ≤ r ∧ r ≤ 10000 ∧ (∀ u, 0 ≤ u → u ≤ r → cost b de u ≤ room) ∧ (r = 10000 ∨ room < cost b de (r + 1))
theorem Best.one {b de room r r' : Int} (h : Best b de room r) (k : Best b de room r') : r = r' := by
  obtain ⟨h1, h2, h3, h4⟩ := h
  obtain ⟨k1, k2, k3, k4⟩ := k
  rcases Int.lt_trichotomy r r' with e | e | e
  · have := k3 (r + 1) (by omega) (by omega)
    omega
  · exact e
  · have := h3 (r' + 1) (by omega) (by omega)
    omega

structure SpOk (d : RD) (s b de : Int) : Prop where
  R : Right d
  s0 : 0 ≤ s
  s1 : s < d.nN
  b0 : 10 ≤ b
  b1 : b ≤ 1000
  d0 : 0 ≤ de
  d1 : de ≤ 20
def IsSpeed (d : RD) (s b de r : Int) : Prop :=
  (SpOk d s b de ∧ ∃ wn sh, Least d d.nN wn sh ∧ ((sh s.toNat ≤ 0 ∧ r = 0) ∨ (0 < sh s.toNat ∧ Best b de (rm d (sh s.toNat).toNat s) r))) ∨ (¬ SpOk d s b de ∧ r = -1)
theorem IsSpeed.one {d : RD} {s b de r r' : Int} (h : IsSpeed d s b de r) (k : IsSpeed d s b de r') : r = r' := by
  rcases h with ⟨a, _, _, hl, h⟩ | ⟨a, rfl⟩ <;> rcases k with ⟨a', _, _, hl', k⟩ | ⟨a', rfl⟩
  · have e := (hl.one a.R.inside hl').2 s.toNat (by have := a.s0; have := a.s1; omega)
    rw [e] at h
    rcases h with ⟨h1, rfl⟩ | ⟨h1, h2⟩ <;> rcases k with ⟨k1, rfl⟩ | ⟨k1, k2⟩
    · rfl
    · omega
    · omega
    · exact h2.one k2
  · exact absurd a a'
  · exact absurd a' a
  · rfl

end Go.Proofs.Ytachkoledebanaa
