/-
  What is shown, as numbers: the lamp, the wish, the rounds in which all are asked anew; that they come to an end, and where.
-/
import Derived.Test.YtachkoledebanabGreatDoorBaseEtc
namespace Go.Proofs.YtachkoledebanabGreatDoor
open Go.RowKit

/-- the greatest aspect, not above a, whose lamp works; -1: none -/
def lampN (f : Nat → Bool) : Nat → Int
  | 0 => if f 0 = true then 0 else -1
  | a + 1 => if f (a + 1) = true then ((a : Int) + 1) else lampN f a
def lamp (f : Nat → Bool) (a : Int) : Int := if a < 0 then -1 else lampN f a.toNat

theorem lampN_ge (f : Nat → Bool) : ∀ a, -1 ≤ lampN f a
  | 0 => by unfold lampN; split <;> omega
  | a + 1 => by have := lampN_ge f a; unfold lampN; split <;> omega
theorem lampN_le (f : Nat → Bool) : ∀ a, lampN f a ≤ a
  | 0 => by unfold lampN; split <;> omega
  | a + 1 => by have := lampN_le f a; unfold lampN; split <;> omega
theorem lamp_ge (f : Nat → Bool) (a : Int) : -1 ≤ lamp f a := by unfold lamp; split <;> first | omega | exact lampN_ge f _
theorem lamp_le (f : Nat → Bool) (a : Int) (h : -1 ≤ a) : lamp f a ≤ a := by
  unfold lamp; split
  · omega
  · have := lampN_le f a.toNat; omega
theorem lampN_mono (f : Nat → Bool) : ∀ (a b : Nat), a ≤ b → lampN f a ≤ lampN f b := by
  intro a b h
  induction h with
  | refl => exact Int.le_refl _
  | @step m hm ih =>
    have h1 := lampN_le f m
    have e : lampN f (m + 1) = if f (m + 1) = true then ((m : Int) + 1) else lampN f m := rfl
    show _ ≤ lampN f (m + 1)
    rw [e]
    split <;> omega
theorem lamp_mono (f : Nat → Bool) {a b : Int} (h : a ≤ b) : lamp f a ≤ lamp f b := by
  unfold lamp
  by_cases ha : a < 0
  · rw [if_pos ha]
    split
    · omega
    · exact lampN_ge f _
  · rw [if_neg ha, if_neg (by omega)]
    exact lampN_mono f _ _ (by omega)

/-- what a signal wants, by what is shown -/
def wish (d : RD) (sh : Nat → Int) (i : Nat) : Int :=
  if d.op i = false then 0 else if d.nx i < 0 then 1 else if 3 < sh (d.nx i).toNat + 1 then 3 else sh (d.nx i).toNat + 1

/-- shown, and wanted, behind k rounds -/
def Sh (d : RD) : Nat → Nat → Int
  | 0, i => lamp (d.wk i) 0
  | k + 1, i => lamp (d.wk i) (wish d (Sh d k) i)
def Wn (d : RD) : Nat → Nat → Int
  | 0, _ => 0
  | k + 1, i => wish d (Sh d k) i

theorem wish_lo {d : RD} {sh : Nat → Int} (h : ∀ i, -1 ≤ sh i) (i : Nat) : 0 ≤ wish d sh i := by
  unfold wish
  have := h (d.nx i).toNat
  repeat' split
  all_goals omega
theorem wish_hi (d : RD) (sh : Nat → Int) (i : Nat) : wish d sh i ≤ 3 := by
  unfold wish
  repeat' split
  all_goals omega
theorem wish_mono {d : RD} {a b : Nat → Int} {i : Nat} (h : 0 ≤ d.nx i → a (d.nx i).toNat ≤ b (d.nx i).toNat) : wish d a i ≤ wish d b i := by
  unfold wish
  by_cases h1 : d.op i = false
  · rw [if_pos h1, if_pos h1]; omega
  · rw [if_neg h1, if_neg h1]
    by_cases h2 : d.nx i < 0
    · rw [if_pos h2, if_pos h2]; omega
    · rw [if_neg h2, if_neg h2]
      have := h (by omega)
      repeat' split
      all_goals omega

theorem Sh_lo (d : RD) (k i : Nat) : -1 ≤ Sh d k i := by cases k <;> exact lamp_ge _ _
theorem Wn_lo (d : RD) (k i : Nat) : 0 ≤ Wn d k i := by
  cases k with
  | zero => exact Int.le_refl _
  | succ k => exact wish_lo (Sh_lo d k) i
theorem Wn_hi (d : RD) (k i : Nat) : Wn d k i ≤ 3 := by
  cases k with
  | zero => show (0 : Int) ≤ 3; omega
  | succ k => exact wish_hi d _ i
theorem Sh_hi (d : RD) (k i : Nat) : Sh d k i ≤ 3 := by
  cases k with
  | zero => have := lamp_le (d.wk i) 0 (by omega); show lamp _ _ ≤ 3; omega
  | succ k =>
    have h1 := wish_hi d (Sh d k) i
    have h2 := wish_lo (d := d) (Sh_lo d k) i
    have := lamp_le (d.wk i) (wish d (Sh d k) i) (by omega)
    show lamp _ _ ≤ 3; omega

theorem Sh_mono (d : RD) : ∀ k i, Sh d k i ≤ Sh d (k + 1) i
  | 0, i => lamp_mono _ (wish_lo (Sh_lo d 0) i)
  | k + 1, _ => lamp_mono _ (wish_mono fun _ => Sh_mono d k _)

/-- how free all are together -/
def sumTo (f : Nat → Int) : Nat → Int
  | 0 => 0
  | n + 1 => sumTo f n + f n
theorem sumTo_le {f g : Nat → Int} : ∀ n, (∀ i, i < n → f i ≤ g i) → sumTo f n ≤ sumTo g n
  | 0, _ => Int.le_refl _
  | n + 1, h => by
    have h1 := sumTo_le n (fun i hi => h i (by omega))
    have h2 := h n (by omega)
    simp only [sumTo]; omega
theorem sumTo_eq {f g : Nat → Int} : ∀ n, (∀ i, i < n → f i ≤ g i) → sumTo g n ≤ sumTo f n → ∀ i, i < n → f i = g i
  | 0, _, _, i, hi => absurd hi (Nat.not_lt_zero _)
  | n + 1, h, hs, i, hi => by
    have h1 := sumTo_le n (fun i hi => h i (by omega))
    have h2 := h n (by omega)
    simp only [sumTo] at hs
    by_cases e : i = n
    · subst e; omega
    · exact sumTo_eq n (fun i hi => h i (by omega)) (by omega) i (by omega)
theorem sumTo_bd {f : Nat → Int} (h : ∀ i, -1 ≤ f i ∧ f i ≤ 3) : ∀ n : Nat, -(n : Int) ≤ sumTo f n ∧ sumTo f n ≤ 3 * n
  | 0 => by simp [sumTo]
  | n + 1 => by have := sumTo_bd h n; have := h n; simp only [sumTo]; omega

/-- nothing changes in round k -/
structure Still (d : RD) (n k : Nat) : Prop where
  sh : ∀ i, i < n → Sh d (k + 1) i = Sh d k i
  wn : ∀ i, i < n → Wn d (k + 1) i = Wn d k i

theorem quiet_some (d : RD) (n : Nat) : ∃ k, ∀ i, i < n → Sh d (k + 1) i = Sh d k i := by
  have key : ∀ m : Nat, (∃ k, ∀ i, i < n → Sh d (k + 1) i = Sh d k i) ∨ -(n : Int) + m ≤ sumTo (Sh d m) n := by
    intro m
    induction m with
    | zero => right; have := (sumTo_bd (f := Sh d 0) (fun i => ⟨Sh_lo d 0 i, Sh_hi d 0 i⟩) n).1; omega
    | succ m ih =>
      rcases ih with h | h
      · exact Or.inl h
      · by_cases hs : sumTo (Sh d (m + 1)) n ≤ sumTo (Sh d m) n
        · left
          exact ⟨m, fun i hi => (sumTo_eq n (fun i _ => Sh_mono d m i) hs i hi).symm⟩
        · right; omega
  rcases key (4 * n + 1) with h | h
  · exact h
  · have := (sumTo_bd (f := Sh d (4 * n + 1)) (fun i => ⟨Sh_lo d _ i, Sh_hi d _ i⟩) n).2
    omega

/-- the Nexts of the first n lie among them -/
def Inside (d : RD) (n : Nat) : Prop := ∀ i, i < n → d.nx i < n

theorem wish_congr {d : RD} {n : Nat} (hin : Inside d n) {a b : Nat → Int} (h : ∀ i, i < n → a i = b i) {i : Nat} (hi : i < n) : wish d a i = wish d b i := by
  have h1 := hin i hi
  unfold wish
  by_cases h2 : d.nx i < 0
  · rw [if_pos h2, if_pos h2]
  · rw [if_neg h2, if_neg h2, h (d.nx i).toNat (by omega)]

theorem still_some {d : RD} {n : Nat} (hin : Inside d n) : ∃ k, Still d n k := by
  obtain ⟨k, hk⟩ := quiet_some d n
  refine ⟨k + 1, fun i hi => ?_, fun i hi => wish_congr hin hk hi⟩
  show lamp _ (wish d (Sh d (k + 1)) i) = lamp _ (wish d (Sh d k) i)
  rw [wish_congr hin hk hi]

/-- the first such round -/
theorem least_some {p : Nat → Prop} : (∃ k, p k) → ∃ m, p m ∧ ∀ k, k < m → ¬ p k := by
  intro ⟨k, hk⟩
  have key : ∀ m, (∃ j, j ≤ m ∧ p j ∧ ∀ l, l < j → ¬ p l) ∨ ∀ j, j ≤ m → ¬ p j := by
    intro m
    induction m with
    | zero =>
      by_cases h : p 0
      · exact Or.inl ⟨0, Nat.le_refl _, h, fun l hl => absurd hl (Nat.not_lt_zero _)⟩
      · exact Or.inr fun j hj => by obtain rfl : j = 0 := by omega
                                    exact h
    | succ m ih =>
      rcases ih with ⟨j, h1, h2, h3⟩ | h
      · exact Or.inl ⟨j, by omega, h2, h3⟩
      · by_cases hm : p (m + 1)
        · exact Or.inl ⟨m + 1, Nat.le_refl _, hm, fun l hl => h l (by omega)⟩
        · exact Or.inr fun j hj => by
            by_cases e : j = m + 1
            · subst e; exact hm
            · exact h j (by omega)
  rcases key k with ⟨j, _, h2, h3⟩ | h
  · exact ⟨j, h2, h3⟩
  · exact absurd hk (h k (Nat.le_refl _))

/-- what is shown at last agrees -/
structure Agrees (d : RD) (n : Nat) (wn sh : Nat → Int) : Prop where
  eW : ∀ i, i < n → wn i = wish d sh i
  eS : ∀ i, i < n → sh i = lamp (d.wk i) (wn i)
  lo : ∀ i, i < n → -1 ≤ sh i

theorem Still.agrees {d : RD} {n k : Nat} (h : Still d n k) : Agrees d n (Wn d k) (Sh d k) :=
  ⟨fun i hi => (h.wn i hi).symm, fun i hi => by
    have e : Wn d k i = wish d (Sh d k) i := (h.wn i hi).symm
    rw [e]; exact (h.sh i hi).symm, fun i _ => Sh_lo d k i⟩

/-- .. and is below every other that agrees -/
theorem Agrees.above {d : RD} {n : Nat} (hin : Inside d n) {wn sh : Nat → Int} (h : Agrees d n wn sh) : ∀ k i, i < n → Sh d k i ≤ sh i
  | 0, i, hi => by
    have h1 := h.eS i hi
    have h2 : 0 ≤ wn i := by
      rw [h.eW i hi]
      unfold wish
      have hl := h.lo
      have h3 := hin i hi
      by_cases h4 : d.nx i < 0
      · rw [if_pos h4]; split <;> omega
      · have := hl (d.nx i).toNat (by omega)
        rw [if_neg h4]
        repeat' split
        all_goals omega
    rw [h1]
    exact lamp_mono _ h2
  | k + 1, i, hi => by
    have h1 := h.eS i hi
    have h2 := h.eW i hi
    rw [h1, h2]
    exact lamp_mono _ (wish_mono fun h0 => Agrees.above hin h k _ (by have := hin i hi; omega))

/-- the least that agrees -/
structure Least (d : RD) (n : Nat) (wn sh : Nat → Int) : Prop where
  ag : Agrees d n wn sh
  le : ∀ wn' sh', Agrees d n wn' sh' → ∀ i, i < n → sh i ≤ sh' i

theorem Still.least {d : RD} {n k : Nat} (hin : Inside d n) (h : Still d n k) : Least d n (Wn d k) (Sh d k) := ⟨h.agrees, fun _ _ h' i hi => h'.above hin k i hi⟩
theorem Least.one {d : RD} {n : Nat} (hin : Inside d n) {a b a' b' : Nat → Int} (h : Least d n a b) (k : Least d n a' b') : (∀ i, i < n → a i = a' i) ∧ ∀ i, i < n → b i = b' i := by
  have hb : ∀ i, i < n → b i = b' i := fun i hi => by
    have h1 := h.le _ _ k.ag i hi
    have h2 := k.le _ _ h.ag i hi
    omega
  exact ⟨fun i hi => by rw [h.ag.eW i hi, k.ag.eW i hi, wish_congr hin hb hi], hb⟩
theorem Least.bd {d : RD} {n : Nat} (hin : Inside d n) {a b : Nat → Int} (h : Least d n a b) : ∀ i, i < n → 0 ≤ a i ∧ a i ≤ 3 ∧ -1 ≤ b i ∧ b i ≤ 3 := fun i hi => by
  obtain ⟨k, hk⟩ := still_some hin
  obtain ⟨e1, e2⟩ := h.one hin (hk.least hin)
  rw [e1 i hi, e2 i hi]
  exact ⟨Wn_lo d k i, Wn_hi d k i, Sh_lo d k i, Sh_hi d k i⟩
theorem least_some' {d : RD} {n : Nat} (hin : Inside d n) : ∃ a b, Least d n a b := by
  obtain ⟨k, hk⟩ := still_some hin
  exact ⟨_, _, hk.least hin⟩

end Go.Proofs.YtachkoledebanabGreatDoor
