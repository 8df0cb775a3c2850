/-
  The signals behind a signal, as data.
-/
import Derived.Test.YtachkoledebanaaGreatDoorBaseEtc
namespace Go.Proofs.YtachkoledebanaaGreatDoor
open Go.RowKit

/-- of the first k signals those whose Next is s -/
def bh (d : RD) (s : Int) (k : Nat) : List Int := ((List.range k).filter (fun i => d.nx i == s)).map Int.ofNat
theorem bh_yes {d : RD} {s : Int} {k : Nat} (h : (d.nx k == s) = true) : bh d s (k + 1) = bh d s k ++ [(k : Int)] := by
  simp [bh, List.range_succ, List.filter_append, h]
theorem bh_no {d : RD} {s : Int} {k : Nat} (h : (d.nx k == s) = false) : bh d s (k + 1) = bh d s k := by
  simp [bh, List.range_succ, List.filter_append, h]
theorem bh_le (d : RD) (s : Int) (k : Nat) : (bh d s k).length ≤ k := by
  have := List.length_filter_le (fun i => d.nx i == s) (List.range k)
  simpa [bh] using this

def IsBehind (d : RD) (s : Int) (xs : List Int) : Prop := (Right d ∧ 0 ≤ s ∧ s < d.nN ∧ xs = bh d s d.nN) ∨ (¬ (Right d ∧ 0 ≤ s ∧ s < d.nN) ∧ xs = [])
theorem IsBehind.one {d : RD} {s : Int} {xs ys : List Int} (h : IsBehind d s xs) (k : IsBehind d s ys) : xs = ys := by
  rcases h with ⟨a, b, c, rfl⟩ | ⟨a, rfl⟩ <;> rcases k with ⟨a', b', c', rfl⟩ | ⟨a', rfl⟩
  · rfl
  · exact absurd ⟨a, b, c⟩ a'
  · exact absurd ⟨a', b', c'⟩ a
  · rfl
theorem IsBehind.le {d : RD} {s : Int} {xs : List Int} (h : IsBehind d s xs) : xs.length ≤ 60 := by
  rcases h with ⟨a, b, c, rfl⟩ | ⟨a, rfl⟩
  · have := bh_le d s d.nN
    have := a.s.nN
    omega
  · simp

end Go.Proofs.YtachkoledebanaaGreatDoor
