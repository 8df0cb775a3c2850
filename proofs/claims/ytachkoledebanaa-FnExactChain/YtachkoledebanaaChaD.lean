/-
  Chain, as a list.
-/
import Derived.Test.YtachkoledebanaaRet
namespace Go.Proofs.Ytachkoledebanaa
open Go.RowKit

/-- the k-th Next of s -/
def it (d : RD) (s : Int) : Nat → Int
  | 0 => s
  | k + 1 => d.nx (it d s k).toNat

def chL (d : RD) (s : Int) (m : Nat) : List Int := (List.range m).map (it d s)
theorem chL_len (d : RD) (s : Int) (m : Nat) : (chL d s m).length = m := by simp [chL]
theorem chL_snoc (d : RD) (s : Int) (m : Nat) : chL d s (m + 1) = chL d s m ++ [it d s m] := by simp [chL, List.range_succ]
theorem chL_get (d : RD) (s : Int) (m k : Nat) (h : k < m) : (chL d s m).getD k 0 = it d s k := by simp [chL, h]

/-- the first k are signals, no two of them one -/
structure Going (d : RD) (s : Int) (k : Nat) : Prop where
  lo : ∀ j, j < k → 0 ≤ it d s j
  hi : ∀ j, j < k → it d s j < d.nN
  ne : ∀ i j, i < j → j < k → it d s i ≠ it d s j
structure IsLen (d : RD) (s : Int) (m : Nat) : Prop where
  go : Going d s m
  ends : it d s m = -1 ∨ ∃ j, j < m ∧ it d s m = it d s j

theorem IsLen.one {d : RD} {s : Int} {m n : Nat} (h : IsLen d s m) (k : IsLen d s n) : m = n := by
  have key : ∀ {a b : Nat}, IsLen d s a → IsLen d s b → ¬ a < b := by
    intro a b ha hb hlt
    rcases ha.ends with e | ⟨j, hj, e⟩
    · have := hb.go.lo a hlt; omega
    · exact hb.go.ne j a hj hlt e.symm
  have h1 := key h k
  have h2 := key k h
  omega

/-- no more different numbers below n than n -/
theorem pigeon : ∀ (n : Nat) (l : List Nat), l.Nodup → (∀ x ∈ l, x < n) → l.length ≤ n
  | 0, l, _, h => by
    cases l with
    | nil => simp
    | cons x t => exact absurd (h x (by simp)) (Nat.not_lt_zero _)
  | n + 1, l, hd, h => by
    by_cases hm : n ∈ l
    · have h1 := pigeon n (l.erase n) (hd.erase n) (fun x hx => by
        have h2 := h x (List.mem_of_mem_erase hx)
        have h3 : x ≠ n := fun e => by subst e; exact (List.Nodup.not_mem_erase hd) hx
        omega)
      rw [List.length_erase_of_mem hm] at h1
      omega
    · have := pigeon n l hd (fun x hx => by
        have h2 := h x hx
        have h3 : x ≠ n := fun e => by subst e; exact hm hx
        omega)
      omega

theorem Going.le {d : RD} {s : Int} {k : Nat} (h : Going d s k) : k ≤ d.nN := by
  have := pigeon d.nN ((List.range k).map fun j => (it d s j).toNat) (by
      rw [List.nodup_iff_pairwise_ne, List.pairwise_map]
      refine List.Pairwise.imp_of_mem (R := fun a b => a < b) ?_ (List.pairwise_lt_range)
      intro a b ha hb hab e
      have ha := List.mem_range.1 ha
      have hb := List.mem_range.1 hb
      have h1 := h.lo a ha
      have h2 := h.lo b hb
      exact h.ne a b hab hb (by omega)) (by
      intro x hx
      obtain ⟨j, hj, rfl⟩ := List.mem_map.1 hx
      have hj := List.mem_range.1 hj
      have h1 := h.lo j hj
      have h2 := h.hi j hj
      omega)
  simpa using this

theorem Going.succ {d : RD} {s : Int} {k : Nat} (h : Going d s k) (h0 : 0 ≤ it d s k) (h1 : it d s k < d.nN) (hn : ∀ j, j < k → it d s j ≠ it d s k) : Going d s (k + 1) :=
  ⟨fun j hj => by
    by_cases e : j = k
    · subst e; exact h0
    · exact h.lo j (by omega), fun j hj => by
    by_cases e : j = k
    · subst e; exact h1
    · exact h.hi j (by omega), fun i j hij hj => by
    by_cases e : j = k
    · subst e; exact hn i hij
    · exact h.ne i j hij (by omega)⟩

def IsChain (d : RD) (s : Int) (xs : List Int) : Prop := (Right d ∧ 0 ≤ s ∧ s < d.nN ∧ ∃ m, IsLen d s m ∧ xs = chL d s m) ∨ (¬ (Right d ∧ 0 ≤ s ∧ s < d.nN) ∧ xs = [])
theorem IsChain.one {d : RD} {s : Int} {xs ys : List Int} (h : IsChain d s xs) (k : IsChain d s ys) : xs = ys := by
  rcases h with ⟨a, b, c, m, hm, rfl⟩ | ⟨a, rfl⟩ <;> rcases k with ⟨a', b', c', m', hm', rfl⟩ | ⟨a', rfl⟩
  · rw [hm.one hm']
  · exact absurd ⟨a, b, c⟩ a'
  · exact absurd ⟨a', b', c'⟩ a
  · rfl
theorem IsChain.le {d : RD} {s : Int} {xs : List Int} (h : IsChain d s xs) : xs.length ≤ 60 := by
  rcases h with ⟨a, b, c, m, hm, rfl⟩ | ⟨a, rfl⟩
  · have := hm.go.le
    have := a.s.nN
    rw [chL_len]
    omega
  · simp

end Go.Proofs.Ytachkoledebanaa
