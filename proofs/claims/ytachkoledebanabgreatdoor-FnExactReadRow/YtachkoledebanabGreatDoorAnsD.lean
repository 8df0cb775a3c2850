/-
  Answer, as lists.
-/
import Derived.Test.YtachkoledebanabGreatDoorWriEtc
import Derived.Test.YtachkoledebanabGreatDoorBoth
namespace Go.Proofs.YtachkoledebanabGreatDoor
open Go.RowKit

/-- an aspect's word -/
def nmT (a : Int) : List UInt8 :=
  if a = -1 then [100, 97, 114, 107] else if a = 0 then [115, 116, 111, 112] else if a = 1 then [115, 108, 111, 119] else if a = 2 then [110, 101, 97, 114] else [102, 114, 101, 101]
theorem nmT_len (a : Int) : (nmT a).length = 4 := by
  unfold nmT
  repeat' split
  all_goals rfl
def ansLine (wn sh : Nat → Int) (i : Nat) : List UInt8 := ((dec i ++ [32]) ++ nmT (sh i)) ++ ((if wn i = sh i then [] else [32, 102, 111, 114, 32] ++ nmT (wn i)) ++ [10])
def ansTxt (wn sh : Nat → Int) : Nat → List UInt8
  | 0 => []
  | i + 1 => ansTxt wn sh i ++ ansLine wn sh i
theorem ansTxt_congr {wn sh wn' sh' : Nat → Int} : ∀ n, (∀ i, i < n → wn i = wn' i) → (∀ i, i < n → sh i = sh' i) → ansTxt wn sh n = ansTxt wn' sh' n
  | 0, _, _ => rfl
  | n + 1, h, k => by
    unfold ansTxt ansLine
    rw [ansTxt_congr n (fun i hi => h i (by omega)) (fun i hi => k i (by omega)), h n (by omega), k n (by omega)]
theorem ansTxt_len (wn sh : Nat → Int) : ∀ n, n ≤ 1000 → (ansTxt wn sh n).length ≤ 30 * n
  | 0, _ => by simp [ansTxt]
  | n + 1, h => by
    have ih := ansTxt_len wn sh n (by omega)
    have h1 := dec_len9 (n := n) (by omega)
    have h2 := nmT_len (sh n)
    have h3 := nmT_len (wn n)
    unfold ansTxt ansLine
    simp only [List.length_append, List.length_cons, List.length_nil]
    split
    · simp only [List.length_nil]; omega
    · simp only [List.length_append, List.length_cons, List.length_nil]; omega
def wrongTxt (c l : Int) : List UInt8 := [119, 114, 111, 110, 103, 32] ++ dec c.toNat ++ [32] ++ dec l.toNat ++ [10]

def IsAnswer (xs ys : List UInt8) : Prop := ∃ c l gs, IsTold xs c l gs ∧
  ((c ≠ 0 ∧ ys = wrongTxt c l) ∨ (c = 0 ∧ ∃ wn sh, Least (rowsOf gs) (rowsOf gs).nN wn sh ∧ ys = ansTxt wn sh (rowsOf gs).nN))
theorem IsTold.right {xs : List UInt8} {l : Int} {gs : List Sg} (h : IsTold xs 0 l gs) : Right (rowsOf gs) := by
  rcases h with ⟨_, e, _⟩ | ⟨_, _, _, e, _⟩ | ⟨_, _, _, _, e, _⟩ | ⟨_, gs', _, _, ⟨_, e, _⟩ | ⟨h, _, _, rfl⟩⟩
  · omega
  · omega
  · omega
  · omega
  · exact h
theorem IsAnswer.one {xs ys zs : List UInt8} (h : IsAnswer xs ys) (k : IsAnswer xs zs) : ys = zs := by
  obtain ⟨c, l, gs, ht, h⟩ := h
  obtain ⟨c', l', gs', kt, k⟩ := k
  obtain ⟨rfl, rfl, rfl⟩ := ht.one kt
  rcases h with ⟨h0, rfl⟩ | ⟨h0, wn, sh, hl, rfl⟩ <;> rcases k with ⟨k0, rfl⟩ | ⟨k0, wn', sh', kl, rfl⟩
  · rfl
  · exact absurd k0 h0
  · exact absurd h0 k0
  · subst h0
    obtain ⟨e1, e2⟩ := hl.one ht.right.inside kl
    exact ansTxt_congr _ e1 e2

/-- bounds of what is told -/
theorem linesA_len : ∀ (l cur : List UInt8), (linesA cur l).1.length ≤ l.length
  | [], _ => by simp [linesA]
  | c :: l, cur => by
    show (if c = 10 then _ else _ : List (List UInt8) × List UInt8).1.length ≤ _
    split
    · have := linesA_len l []
      simp only [List.length_cons]
      omega
    · have := linesA_len l (cur ++ [c])
      simp only [List.length_cons]
      omega
theorem IsTold.bd {xs : List UInt8} {c l : Int} {gs : List Sg} (h : IsTold xs c l gs) : 0 ≤ c ∧ c ≤ 3 ∧ 0 ≤ l ∧ l ≤ 10001 := by
  have hl := linesA_len xs []
  rcases h with ⟨_, rfl, rfl, _⟩ | ⟨h0, k, hb, rfl, rfl, _⟩ | ⟨h0, gs', hr, _, rfl, rfl, _⟩ | ⟨_, gs', _, _, ⟨_, rfl, rfl, _⟩ | ⟨_, rfl, rfl, _⟩⟩
  · omega
  · have := hb.lt; omega
  · have := hr.len; omega
  · omega
  · omega

end Go.Proofs.YtachkoledebanabGreatDoor
