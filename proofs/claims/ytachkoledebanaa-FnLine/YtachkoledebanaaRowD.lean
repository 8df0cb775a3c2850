/-
  The row that is drawn out of bytes, as data.
-/
import Derived.Test.YtachkoledebanaaCur
import Derived.Test.YtachkoledebanaaLam
namespace Go.Proofs.Ytachkoledebanaa
open Go.RowKit

/-- the cursor, m steps on -/
def st (k : Code) : Nat → Cu → Cu
  | 0, c => c
  | m + 1, c => (st k m c).step k
/-- drawn for signal i: its Next -/
def rMid (kd : Int) (i : Nat) (x : Int) : Int := if kd = 0 then (i : Int) - 1 else x - 1
def rNx (k : Code) (n : Nat) (kd : Int) (i : Nat) (c : Cu) : Int := if kd = 1 then ((i : Int) + 1) % n else rMid kd i (c.val k % ((n : Int) + 1))
/-- .. its Far, its way -/
def rFr (k : Code) (c : Cu) : Int := (st k 1 c).val k * (1 + (st k 2 c).val k % 9)
def rOp (k : Code) (c : Cu) : Bool := decide (0 < (st k 3 c).val k % 6)
/-- .. its lamps: one may be broken; two more may -/
def rC (k : Code) (c : Cu) : Cu := if (st k 4 c).val k % 4 = 0 then st k 6 c else st k 5 c
def rW1 (k : Code) (c : Cu) : Nat → Bool := if (st k 4 c).val k % 4 = 0 then less (fun _ => true) ((st k 5 c).val k % 4).toNat else fun _ => true
def rE (k : Code) (c : Cu) : Cu := if (rC k c).val k % 9 = 0 then st k 3 (rC k c) else st k 1 (rC k c)
def rW (k : Code) (c : Cu) : Nat → Bool := if (rC k c).val k % 9 = 0 then less (less (rW1 k c) ((st k 1 (rC k c)).val k % 4).toNat) ((st k 2 (rC k c)).val k % 4).toNat else rW1 k c
/-- the cursor ahead of signal i -/
def cAt (k : Code) : Nat → Cu
  | 0 => st k 2 ⟨0, 0⟩
  | i + 1 => rE k (cAt k i)

def dN (k : Code) : Nat := (1 + (⟨0, 0⟩ : Cu).val k % 9).toNat
def dK (k : Code) : Int := (st k 1 ⟨0, 0⟩).val k % 3
def drawn (k : Code) : RD := ⟨dN k, fun i => rNx k (dN k) (dK k) i (cAt k i), dN k, fun i => rFr k (cAt k i), dN k, fun i => rOp k (cAt k i), dN k, fun _ => 4, fun i => rW k (cAt k i)⟩

/-- bytes are bytes -/
def Bytes (k : Code) : Prop := ∀ i, i < k.n → 0 ≤ k.b i ∧ k.b i ≤ 255
theorem val_bd {k : Code} (h : Bytes k) (c : Cu) : 0 ≤ c.val k ∧ c.val k ≤ 255 := by
  unfold Cu.val
  split
  · exact h _ (by assumption)
  · exact top_bd (mixB_bd _).1 (mixB_bd _).2

theorem dN_bd {k : Code} (h : Bytes k) : 1 ≤ dN k ∧ dN k ≤ 9 := by
  have := val_bd h ⟨0, 0⟩
  unfold dN
  omega
theorem dN_eq {k : Code} (h : Bytes k) : (dN k : Int) = 1 + (⟨0, 0⟩ : Cu).val k % 9 := by
  have := val_bd h ⟨0, 0⟩
  unfold dN
  omega

theorem st_pos (k : Code) (c : Cu) : ∀ m, (st k m c).pos = c.pos + m
  | 0 => rfl
  | m + 1 => by
    show (st k m c).pos + 1 = _
    rw [st_pos k c m]; omega
theorem rC_pos (k : Code) (c : Cu) : (rC k c).pos ≤ c.pos + 6 := by unfold rC; split <;> rw [st_pos] <;> omega
theorem rE_pos (k : Code) (c : Cu) : (rE k c).pos ≤ c.pos + 9 := by
  have := rC_pos k c
  unfold rE; split <;> rw [st_pos] <;> omega
theorem cAt_pos (k : Code) : ∀ i, (cAt k i).pos ≤ 2 + 9 * i
  | 0 => by show (st k 2 ⟨0, 0⟩).pos ≤ _; rw [st_pos]; show 0 + 2 ≤ 2 + 9 * 0; omega
  | i + 1 => by
    have h1 := rE_pos k (cAt k i)
    have h2 := cAt_pos k i
    show (rE k (cAt k i)).pos ≤ _
    omega

theorem drawn_right {k : Code} (h : Bytes k) : Right (drawn k) := by
  have hn := dN_bd h
  refine ⟨⟨by show dN k ≤ 60; omega, rfl, rfl, rfl⟩, fun i hi => ?_, fun i _ => rfl⟩
  have hi' : i < dN k := hi
  refine ⟨?_, ?_⟩
  · show -1 ≤ rNx k (dN k) (dK k) i (cAt k i) ∧ rNx k (dN k) (dK k) i (cAt k i) < (dN k : Int)
    unfold rNx
    split
    · have h1 := Int.emod_nonneg ((i : Int) + 1) (show (dN k : Int) ≠ 0 by omega)
      have h2 := Int.emod_lt_of_pos ((i : Int) + 1) (show (0 : Int) < dN k by omega)
      omega
    · unfold rMid
      split
      · omega
      · have h1 := Int.emod_nonneg ((cAt k i).val k) (show (dN k : Int) + 1 ≠ 0 by omega)
        have h2 := Int.emod_lt_of_pos ((cAt k i).val k) (show (0 : Int) < (dN k : Int) + 1 by omega)
        omega
  · show 0 ≤ rFr k (cAt k i) ∧ rFr k (cAt k i) ≤ 1000000
    unfold rFr
    have h1 := val_bd h (st k 1 (cAt k i))
    have h2 := val_bd h (st k 2 (cAt k i))
    generalize (st k 1 (cAt k i)).val k = x at *
    generalize (st k 2 (cAt k i)).val k = y at *
    have h3 : 0 ≤ 1 + y % 9 ∧ 1 + y % 9 ≤ 9 := by omega
    generalize 1 + y % 9 = z at *
    refine ⟨Int.mul_nonneg h1.1 h3.1, ?_⟩
    have := Int.mul_le_mul h1.2 h3.2 h3.1 (by omega)
    omega

end Go.Proofs.Ytachkoledebanaa
