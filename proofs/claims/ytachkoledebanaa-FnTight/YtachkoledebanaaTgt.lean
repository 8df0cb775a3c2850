/-
  What is closed or breaks makes nothing freer; where the changes stand.
-/
import Derived.Test.YtachkoledebanaaChgD
namespace Go.Proofs.Ytachkoledebanaa
open Go.RowKit

theorem lampN_less {f g : Nat → Bool} (h : ∀ j, f j = true → g j = true) : ∀ a, lampN f a ≤ lampN g a
  | 0 => by
    unfold lampN
    cases hf : f 0 with
    | false => simp; split <;> omega
    | true => rw [h 0 hf]; simp
  | a + 1 => by
    have ih := lampN_less h a
    have hl := lampN_le f a
    unfold lampN
    cases hf : f (a + 1) with
    | false =>
      cases hg : g (a + 1) with
      | false => simpa using ih
      | true => simp; omega
    | true => rw [h (a + 1) hf]; simp
theorem lamp_less {f g : Nat → Bool} (h : ∀ j, f j = true → g j = true) {a b : Int} (hab : a ≤ b) : lamp f a ≤ lamp g b := by
  refine Int.le_trans ?_ (lamp_mono g hab)
  unfold lamp
  split
  · omega
  · exact lampN_less h _

/-- nowhere freer by its own: less open, fewer lamps, the same Nexts -/
structure Tighter (d' d : RD) : Prop where
  nx : d'.nx = d.nx
  op : ∀ i, d'.op i = true → d.op i = true
  wk : ∀ i j, d'.wk i j = true → d.wk i j = true
theorem closed_tighter (d : RD) (s : Nat) : Tighter (closed d s) d := ⟨rfl, fun i h => by
    have h' : (if i = s then false else d.op i) = true := h
    by_cases e : i = s
    · rw [if_pos e] at h'; cases h'
    · rw [if_neg e] at h'; exact h', fun _ _ h => h⟩
theorem broken_tighter (d : RD) (s l : Nat) : Tighter (broken d s l) d := ⟨rfl, fun _ h => h, fun i j h => by
    have h' : (if i = s ∧ j = l then false else d.wk i j) = true := h
    by_cases e : i = s ∧ j = l
    · rw [if_pos e] at h'; cases h'
    · rw [if_neg e] at h'; exact h'⟩

theorem tight_rounds {d' d : RD} {n : Nat} (ht : Tighter d' d) (hin : Inside d n) {wn sh : Nat → Int} (h : Agrees d n wn sh) : ∀ k i, i < n → Sh d' k i ≤ sh i
  | 0, i, hi => by
    rw [h.eS i hi]
    show lamp (d'.wk i) 0 ≤ _
    refine lamp_less (ht.wk i) ?_
    rw [h.eW i hi]
    unfold wish
    have hl := h.lo
    have h3 := hin i hi
    by_cases h4 : d.nx i < 0
    · rw [if_pos h4]; split <;> omega
    · have := hl (d.nx i).toNat (by omega)
      rw [if_neg h4]
      repeat' split
      all_goals omega
  | k + 1, i, hi => by
    rw [h.eS i hi, h.eW i hi]
    show lamp (d'.wk i) (wish d' (Sh d' k) i) ≤ _
    refine lamp_less (ht.wk i) ?_
    have hw : wish d (Sh d' k) i ≤ wish d sh i := wish_mono fun h0 => tight_rounds ht hin h k _ (by have := hin i hi; omega)
    refine Int.le_trans ?_ hw
    have h0 := wish_lo (d := d) (Sh_lo d' k) i
    unfold wish at h0 ⊢
    rw [ht.nx]
    cases ho : d'.op i with
    | false => rw [if_pos rfl]; exact h0
    | true => rw [ht.op i ho]; exact Int.le_refl _

theorem Least.tight {d' d : RD} {n : Nat} (ht : Tighter d' d) (hin : Inside d n) {wn sh wn' sh' : Nat → Int} (h : Least d n wn sh) (h' : Least d' n wn' sh') : ∀ i, i < n → sh' i ≤ sh i := fun i hi => by
  have hin' : Inside d' n := fun i hi => by rw [ht.nx]; exact hin i hi
  obtain ⟨k, hk⟩ := still_some hin'
  rw [(h'.one hin' (hk.least hin')).2 i hi]
  exact tight_rounds ht hin h.ag k i hi

theorem chg_prefix (x y : Nat → Int) : ∀ (n i : Nat), i ≤ n → ∃ t, chg x y n = chg x y i ++ t
  | 0, i, h => ⟨[], by obtain rfl : i = 0 := by omega
                       simp⟩
  | n + 1, i, h => by
    by_cases e : i = n + 1
    · exact ⟨[], by rw [e]; simp⟩
    · obtain ⟨t, ht⟩ := chg_prefix x y n i (by omega)
      have hs : chg x y (n + 1) = if x n = y n then chg x y n else chg x y n ++ [((n : Int), x n, y n)] := rfl
      rw [hs]
      split
      · exact ⟨t, ht⟩
      · exact ⟨t ++ [((n : Int), x n, y n)], by rw [ht, List.append_assoc]⟩
theorem chg_at {x y : Nat → Int} {n i : Nat} (hi : i < n) (hne : ¬ x i = y i) : (chg x y i).length < (chg x y n).length ∧ (chg x y n).getD (chg x y i).length (0, 0, 0) = ((i : Int), x i, y i) := by
  obtain ⟨t, ht⟩ := chg_prefix x y n (i + 1) hi
  have hs : chg x y (i + 1) = chg x y i ++ [((i : Int), x i, y i)] := by
    show (if x i = y i then chg x y i else _) = _
    rw [if_neg hne]
  rw [ht, hs]
  constructor
  · simp
  · simp [List.getD]

end Go.Proofs.Ytachkoledebanaa
