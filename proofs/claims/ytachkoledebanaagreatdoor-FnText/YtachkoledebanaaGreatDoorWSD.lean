/-
  Wants and Shows, as lists.
-/
import Derived.Test.YtachkoledebanaaGreatDoorBoth
namespace Go.Proofs.YtachkoledebanaaGreatDoor
open Go.RowKit

def IsWants (d : RD) (xs : List Int) : Prop := (Right d ∧ ∃ wn sh, Least d d.nN wn sh ∧ xs = lst wn d.nN) ∨ (¬ Right d ∧ xs = [])
def IsShows (d : RD) (xs : List Int) : Prop := (Right d ∧ ∃ wn sh, Least d d.nN wn sh ∧ xs = lst sh d.nN) ∨ (¬ Right d ∧ xs = [])

theorem IsWants.one {d : RD} {xs ys : List Int} (h : IsWants d xs) (k : IsWants d ys) : xs = ys := by
  rcases h with ⟨a, _, _, hl, rfl⟩ | ⟨a, rfl⟩ <;> rcases k with ⟨a', _, _, hl', rfl⟩ | ⟨a', rfl⟩
  · exact lst_congr (hl.one a.inside hl').1
  · exact absurd a a'
  · exact absurd a' a
  · rfl
theorem IsShows.one {d : RD} {xs ys : List Int} (h : IsShows d xs) (k : IsShows d ys) : xs = ys := by
  rcases h with ⟨a, _, _, hl, rfl⟩ | ⟨a, rfl⟩ <;> rcases k with ⟨a', _, _, hl', rfl⟩ | ⟨a', rfl⟩
  · exact lst_congr (hl.one a.inside hl').2
  · exact absurd a a'
  · exact absurd a' a
  · rfl
theorem IsWants.le {d : RD} {xs : List Int} (h : IsWants d xs) : xs.length ≤ 60 := by
  rcases h with ⟨a, _, _, _, rfl⟩ | ⟨a, rfl⟩
  · rw [lst_len]; exact a.s.nN
  · simp
theorem IsShows.le {d : RD} {xs : List Int} (h : IsShows d xs) : xs.length ≤ 60 := by
  rcases h with ⟨a, _, _, _, rfl⟩ | ⟨a, rfl⟩
  · rw [lst_len]; exact a.s.nN
  · simp

end Go.Proofs.YtachkoledebanaaGreatDoor
