/-
  Room and Stop, as numbers.
-/
import Derived.Test.YtachkoledebanaaBoth
namespace Go.Proofs.Ytachkoledebanaa
open Go.RowKit

/-- a Fars from s on -/
def rm (d : RD) : Nat → Int → Int
  | 0, _ => 0
  | a + 1, s => if s < 0 then 0 else d.fr s.toNat + rm d a (d.nx s.toNat)
/-- how far to the first stop, k signals at the most -/
def stp (d : RD) (sh : Nat → Int) : Nat → Nat → Int → Int
  | 0, _, _ => -2
  | k + 1, s, f => if sh s ≤ 0 then f else if d.nx s < 0 then f + d.fr s else stp d sh k (d.nx s).toNat (f + d.fr s)

def IsRoom (d : RD) (s r : Int) : Prop := (Right d ∧ 0 ≤ s ∧ s < d.nN ∧ ∃ wn sh, Least d d.nN wn sh ∧ r = rm d (sh s.toNat).toNat s) ∨ (¬ (Right d ∧ 0 ≤ s ∧ s < d.nN) ∧ r = -1)
def IsStop (d : RD) (s r : Int) : Prop := (Right d ∧ 0 ≤ s ∧ s < d.nN ∧ ∃ wn sh, Least d d.nN wn sh ∧ r = stp d sh (d.nN + 1) s.toNat 0) ∨ (¬ (Right d ∧ 0 ≤ s ∧ s < d.nN) ∧ r = -1)

theorem stp_congr {d : RD} {n : Nat} (hin : Inside d n) {a b : Nat → Int} (h : ∀ i, i < n → a i = b i) : ∀ (k s : Nat) (f : Int), s < n → stp d a k s f = stp d b k s f
  | 0, _, _, _ => rfl
  | k + 1, s, f, hs => by
    have h1 := hin s hs
    unfold stp
    rw [h s hs]
    split
    · rfl
    · split
      · rfl
      · exact stp_congr hin h k _ _ (by omega)

theorem IsRoom.one {d : RD} {s r r' : Int} (h : IsRoom d s r) (k : IsRoom d s r') : r = r' := by
  rcases h with ⟨a, b, c, _, _, hl, rfl⟩ | ⟨a, rfl⟩ <;> rcases k with ⟨a', b', c', _, _, hl', rfl⟩ | ⟨a', rfl⟩
  · rw [(hl.one a.inside hl').2 s.toNat (by omega)]
  · exact absurd ⟨a, b, c⟩ a'
  · exact absurd ⟨a', b', c'⟩ a
  · rfl
theorem IsStop.one {d : RD} {s r r' : Int} (h : IsStop d s r) (k : IsStop d s r') : r = r' := by
  rcases h with ⟨a, b, c, _, _, hl, rfl⟩ | ⟨a, rfl⟩ <;> rcases k with ⟨a', b', c', _, _, hl', rfl⟩ | ⟨a', rfl⟩
  · exact stp_congr a.inside (hl.one a.inside hl').2 _ _ _ (by omega)
  · exact absurd ⟨a, b, c⟩ a'
  · exact absurd ⟨a', b', c'⟩ a
  · rfl

/-- bounds -/
theorem rm_bd {d : RD} (hR : Right d) : ∀ (a : Nat) (s : Int), -1 ≤ s → s < d.nN → 0 ≤ rm d a s ∧ rm d a s ≤ 1000000 * a
  | 0, _, _, _ => by simp [rm]
  | a + 1, s, h1, h2 => by
    unfold rm
    split
    · omega
    · have hw := hR.w s.toNat (by omega)
      have ih := rm_bd hR a (d.nx s.toNat) hw.1.1 hw.1.2
      have h3 := hw.2
      omega
theorem stp_bd {d : RD} (hR : Right d) {sh : Nat → Int} : ∀ (k s : Nat) (f : Int), s < d.nN → 0 ≤ f → -2 ≤ stp d sh k s f ∧ stp d sh k s f ≤ f + 1000000 * k
  | 0, _, _, _, _ => by simp [stp]; omega
  | k + 1, s, f, hs, hf => by
    have hw := hR.w s hs
    have h3 := hw.2
    have h4 := hw.1
    unfold stp
    split
    · omega
    · split
      · omega
      · have ih := stp_bd hR (sh := sh) k (d.nx s).toNat (f + d.fr s) (by omega) (by omega)
        omega

end Go.Proofs.Ytachkoledebanaa
