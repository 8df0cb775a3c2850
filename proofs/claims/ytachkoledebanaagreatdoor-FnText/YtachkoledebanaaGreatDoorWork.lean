/-
  A worklist that raises what is shown, one signal at a time, ends at the least that agrees.
-/
import Derived.Test.YtachkoledebanaaGreatDoorShow
import Derived.Test.YtachkoledebanaaGreatDoorBh
namespace Go.Proofs.YtachkoledebanaaGreatDoor
open Go.RowKit

/-- what is shown, signal i raised to v -/
def raise (sh : Nat → Int) (i : Nat) (v : Int) : Nat → Int := fun j => if j = i then v else sh j
theorem raise_same (sh : Nat → Int) (i : Nat) (v : Int) : raise sh i v i = v := by simp [raise]
theorem raise_other (sh : Nat → Int) {i j : Nat} (v : Int) (h : j ≠ i) : raise sh i v j = sh j := by simp [raise, h]
theorem raise_le {sh : Nat → Int} {i : Nat} {v : Int} (h : sh i ≤ v) (j : Nat) : sh j ≤ raise sh i v j := by
  unfold raise; split
  · subst_vars; exact h
  · exact Int.le_refl _

/-- what is shown by now, and who is still to be asked -/
structure Wl (d : RD) (n : Nat) (sh : Nat → Int) (q : List Int) : Prop where
  bd : ∀ i, i < n → -1 ≤ sh i ∧ sh i ≤ 3
  up : ∀ i, i < n → sh i ≤ lamp (d.wk i) (wish d sh i)
  ag : ∀ i, i < n → (i : Int) ∈ q ∨ sh i = lamp (d.wk i) (wish d sh i)
  le : ∀ wn' sh', Agrees d n wn' sh' → ∀ i, i < n → sh i ≤ sh' i
  qi : ∀ x, x ∈ q → 0 ≤ x ∧ x < n

theorem wish_at_lo {d : RD} {n : Nat} (hin : Inside d n) {sh : Nat → Int} (h : ∀ i, i < n → -1 ≤ sh i) {i : Nat} (hi : i < n) : 0 ≤ wish d sh i := by
  unfold wish
  have h3 := hin i hi
  by_cases h4 : d.nx i < 0
  · rw [if_pos h4]; split <;> omega
  · have := h (d.nx i).toNat (by omega)
    rw [if_neg h4]
    repeat' split
    all_goals omega

theorem Wl.start {d : RD} {n : Nat} (hin : Inside d n) {q : List Int} (hq : ∀ i, i < n → (i : Int) ∈ q) (hq' : ∀ x, x ∈ q → 0 ≤ x ∧ x < n) : Wl d n (fun i => lamp (d.wk i) 0) q :=
  ⟨fun i _ => ⟨lamp_ge _ _, by have := lamp_le (d.wk i) 0 (by omega); omega⟩, fun i hi => lamp_mono _ (wish_at_lo hin (fun i _ => lamp_ge _ _) hi), fun i hi => Or.inl (hq i hi), fun _ _ h' i hi => h'.above hin 0 i hi, hq'⟩

theorem Wl.pop {d : RD} {n : Nat} {sh : Nat → Int} {i : Nat} {t : List Int} (h : Wl d n sh ((i : Int) :: t)) (he : sh i = lamp (d.wk i) (wish d sh i)) : Wl d n sh t :=
  ⟨h.bd, h.up, fun j hj => by
    by_cases e : j = i
    · subst e; exact Or.inr he
    · rcases h.ag j hj with h1 | h1
      · rcases List.mem_cons.1 h1 with h2 | h2
        · omega
        · exact Or.inl h2
      · exact Or.inr h1, h.le, fun x hx => h.qi x (List.mem_cons_of_mem _ hx)⟩

theorem mem_bh {d : RD} {s : Int} : ∀ {k j : Nat}, j < k → d.nx j = s → (j : Int) ∈ bh d s k
  | 0, _, h, _ => absurd h (Nat.not_lt_zero _)
  | k + 1, j, h, e => by
    by_cases q : d.nx k = s
    · rw [bh_yes (by rw [beq_iff_eq]; exact q)]
      by_cases e' : j = k
      · subst e'; simp
      · exact List.mem_append_left _ (mem_bh (by omega) e)
    · rw [bh_no (by rw [beq_eq_false_iff_ne]; exact q)]
      by_cases e' : j = k
      · subst e'; exact absurd e q
      · exact mem_bh (by omega) e
theorem bh_in {d : RD} {s : Int} : ∀ {k : Nat} {x : Int}, x ∈ bh d s k → 0 ≤ x ∧ x < k
  | 0, x, h => by simp [bh] at h
  | k + 1, x, h => by
    by_cases q : d.nx k = s
    · rw [bh_yes (by rw [beq_iff_eq]; exact q)] at h
      rcases List.mem_append.1 h with h1 | h1
      · have := bh_in h1; omega
      · simp at h1; omega
    · rw [bh_no (by rw [beq_eq_false_iff_ne]; exact q)] at h
      have := bh_in h; omega

theorem wish_raise_same {d : RD} {sh : Nat → Int} {i j : Nat} {v : Int} (h : d.nx j ≠ (i : Int)) : wish d (raise sh i v) j = wish d sh j := by
  unfold wish
  by_cases h2 : d.nx j < 0
  · rw [if_pos h2, if_pos h2]
  · rw [if_neg h2, if_neg h2, raise_other sh v (by omega)]

theorem Wl.rise {d : RD} {n : Nat} (hin : Inside d n) {sh : Nat → Int} {i : Nat} {t : List Int} {v : Int} (h : Wl d n sh ((i : Int) :: t)) (hi : i < n) (hv : v = lamp (d.wk i) (wish d sh i)) : Wl d n (raise sh i v) (t ++ bh d i n) := by
  have hup := h.up i hi
  rw [← hv] at hup
  have hle := raise_le hup
  refine ⟨fun j hj => ?_, fun j hj => ?_, fun j hj => ?_, fun wn' sh' h' j hj => ?_, fun x hx => ?_⟩
  · by_cases e : j = i
    · subst e
      rw [raise_same, hv]
      have h1 := wish_at_lo hin (fun i hi => (h.bd i hi).1) hj
      have h2 := wish_hi d sh j
      have h3 := lamp_le (d.wk j) (wish d sh j) (by omega)
      exact ⟨lamp_ge _ _, by omega⟩
    · rw [raise_other sh v e]; exact h.bd j hj
  · have hm : wish d sh j ≤ wish d (raise sh i v) j := wish_mono fun _ => hle _
    by_cases e : j = i
    · subst e
      rw [raise_same]
      conv => lhs; rw [hv]
      exact lamp_mono _ hm
    · rw [raise_other sh v e]
      exact Int.le_trans (h.up j hj) (lamp_mono _ hm)
  · by_cases en : d.nx j = (i : Int)
    · exact Or.inl (List.mem_append_right _ (mem_bh hj en))
    · rw [wish_raise_same en]
      by_cases e : j = i
      · subst e; right; rw [raise_same]; exact hv
      · rw [raise_other sh v e]
        rcases h.ag j hj with h1 | h1
        · rcases List.mem_cons.1 h1 with h2 | h2
          · omega
          · exact Or.inl (List.mem_append_left _ h2)
        · exact Or.inr h1
  · by_cases e : j = i
    · subst e
      rw [raise_same, hv, h'.eS j hj, h'.eW j hj]
      exact lamp_mono _ (wish_mono fun h0 => h.le _ _ h' _ (by have := hin j hj; omega))
    · rw [raise_other sh v e]; exact h.le _ _ h' j hj
  · rcases List.mem_append.1 hx with h1 | h1
    · exact h.qi x (List.mem_cons_of_mem _ h1)
    · exact bh_in h1

theorem Wl.done {d : RD} {n : Nat} {sh : Nat → Int} (h : Wl d n sh []) : Least d n (wish d sh) sh :=
  ⟨⟨fun _ _ => rfl, fun i hi => by
    rcases h.ag i hi with h1 | h1
    · cases h1
    · exact h1, fun i hi => (h.bd i hi).1⟩, h.le⟩

theorem sumTo_raise (sh : Nat → Int) (i : Nat) (v : Int) : ∀ n, i < n → sumTo (raise sh i v) n = sumTo sh n - sh i + v
  | 0, h => absurd h (Nat.not_lt_zero _)
  | n + 1, h => by
    simp only [sumTo]
    by_cases e : i = n
    · subst e
      have : ∀ m, m ≤ i → sumTo (raise sh i v) m = sumTo sh m := by
        intro m
        induction m with
        | zero => intro _; rfl
        | succ m ih => intro hm; simp only [sumTo]; rw [ih (by omega), raise_other sh v (by omega)]
      rw [this i (Nat.le_refl _), raise_same]; omega
    · rw [sumTo_raise sh i v n (by omega), raise_other sh v (by omega)]; omega

/-- how much may rise yet -/
def gap (sh : Nat → Int) (n : Nat) : Nat := (3 * (n : Int) - sumTo sh n).toNat
theorem gap_le {d : RD} {n : Nat} {sh : Nat → Int} {q : List Int} (h : Wl d n sh q) : 3 * (n : Int) - sumTo sh n = gap sh n ∧ gap sh n ≤ 4 * n := by
  have key : ∀ m, m ≤ n → -(m : Int) ≤ sumTo sh m ∧ sumTo sh m ≤ 3 * m := by
    intro m
    induction m with
    | zero => intro _; simp [sumTo]
    | succ m ih => intro hm; have := ih (by omega); have := h.bd m (by omega); simp only [sumTo]; omega
  have := key n (Nat.le_refl _)
  unfold gap
  omega
theorem gap_raise {d : RD} {n : Nat} (hin : Inside d n) {sh : Nat → Int} {i : Nat} {t : List Int} {v : Int} (h : Wl d n sh ((i : Int) :: t)) (hi : i < n) (hv : v = lamp (d.wk i) (wish d sh i)) (hne : v ≠ sh i) : gap (raise sh i v) n < gap sh n := by
  have h1 := (gap_le h).1
  have h2 := (gap_le (h.rise hin hi hv)).1
  have h3 := sumTo_raise sh i v n hi
  have h4 := h.up i hi
  rw [← hv] at h4
  omega

/-- what the worklist's loop goes down by -/
def load (n : Nat) (sh : Nat → Int) (q : List Int) : Nat := 61 * gap sh n + q.length

end Go.Proofs.YtachkoledebanaaGreatDoor
