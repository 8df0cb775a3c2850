/-
  There is the room that is told: what is shown and how far it is to the first stop, as numbers.
-/
import Derived.Test.YtachkoledebanaaRm
namespace Go.Proofs.Ytachkoledebanaa
open Go.RowKit

/-- what is shown ahead is one less at the most -/
theorem Least.ahead {d : RD} {n : Nat} {wn sh : Nat → Int} (hl : Least d n wn sh) (hin : Inside d n) {i : Nat} (hi : i < n) (h1 : 0 < sh i) : (d.nx i < 0 → sh i ≤ 1) ∧ (0 ≤ d.nx i → sh i - 1 ≤ sh (d.nx i).toNat) := by
  have hbd := hl.bd hin i hi
  have h2 := hl.ag.eS i hi
  have h3 := lamp_le (d.wk i) (wn i) (by omega)
  have h4 := hl.ag.eW i hi
  unfold wish at h4
  by_cases e1 : d.op i = false
  · rw [if_pos e1] at h4; omega
  · rw [if_neg e1] at h4
    by_cases e2 : d.nx i < 0
    · rw [if_pos e2] at h4
      exact ⟨fun _ => by omega, fun h => by omega⟩
    · rw [if_neg e2] at h4
      refine ⟨fun h => absurd h e2, fun _ => ?_⟩
      split at h4 <;> omega

theorem rm_neg (d : RD) (a : Nat) {s : Int} (h : s < 0) : rm d a s = 0 := by
  cases a with
  | zero => rfl
  | succ a => unfold rm; rw [if_pos h]
theorem rm_succ (d : RD) (a i : Nat) : rm d (a + 1) i = d.fr i + rm d a (d.nx i) := by
  show (if (i : Int) < 0 then 0 else d.fr (i : Int).toNat + rm d a (d.nx (i : Int).toNat)) = _
  rw [if_neg (by omega), Int.toNat_natCast]

theorem room_le_stop {d : RD} (hR : Right d) {wn sh : Nat → Int} (hl : Least d d.nN wn sh) : ∀ (g i a : Nat) (f : Int), i < d.nN → (a : Int) ≤ sh i ∨ a = 0 → stp d sh g i f = -2 ∨ f + rm d a i ≤ stp d sh g i f
  | 0, i, a, f, _, _ => Or.inl rfl
  | g + 1, i, a, f, hi, ha => by
    have hw := hR.w i hi
    have hf := hw.2
    have hn := hw.1
    have e : stp d sh (g + 1) i f = if sh i ≤ 0 then f else if d.nx i < 0 then f + d.fr i else stp d sh g (d.nx i).toNat (f + d.fr i) := rfl
    rw [e]
    by_cases h1 : sh i ≤ 0
    · rw [if_pos h1]
      obtain rfl : a = 0 := by omega
      right
      show f + 0 ≤ f
      omega
    · rw [if_neg h1]
      have hah := hl.ahead hR.inside hi (by omega)
      by_cases h2 : d.nx i < 0
      · rw [if_pos h2]
        right
        cases a with
        | zero => show f + 0 ≤ _; omega
        | succ a => rw [rm_succ, rm_neg d a h2]; omega
      · rw [if_neg h2]
        obtain ⟨j, hj⟩ : ∃ j : Nat, d.nx i = j := ⟨(d.nx i).toNat, by omega⟩
        rw [hj] at hah hn ⊢
        rw [Int.toNat_natCast] at hah ⊢
        cases a with
        | zero =>
          rcases room_le_stop hR hl g j 0 (f + d.fr i) (by omega) (Or.inr rfl) with e | e
          · exact Or.inl e
          · right
            have e' : f + d.fr i + 0 ≤ _ := e
            show f + 0 ≤ _
            omega
        | succ a =>
          have h3 := hah.2 (by omega)
          rcases room_le_stop hR hl g j a (f + d.fr i) (by omega) (Or.inl (by omega)) with e | e
          · exact Or.inl e
          · right
            rw [rm_succ, hj]
            omega

end Go.Proofs.Ytachkoledebanaa
