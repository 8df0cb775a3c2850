/-
  Changes: as a list; in memory; what Closing and Breaking answer.
-/
import Derived.Test.YtachkoledebanaaBoth
import Derived.Deep.RegionHeld3
import Derived.Deep.AppendLies
import Derived.Deep.DrawnRows
namespace Go.Proofs.Ytachkoledebanaa
open Go.RowKit

theorem Try.uChgs : Try.prog.underlying 38 = some (.slice 42) := by kernel_rfl
theorem Try.iChg : (Try.prog.info? 42).map (fun i => (i.zero, i.size, i.bytes)) = some (some (.agg #[.int .i64 0, .int .i64 0, .int .i64 0]), 3, 24) := by kernel_rfl

/-- of the first k signals those that show something else -/
def chg (x y : Nat → Int) : Nat → List (Int × Int × Int)
  | 0 => []
  | k + 1 => if x k = y k then chg x y k else chg x y k ++ [((k : Int), x k, y k)]
theorem chg_le (x y : Nat → Int) : ∀ k, (chg x y k).length ≤ k
  | 0 => by simp [chg]
  | k + 1 => by
    have := chg_le x y k
    unfold chg
    split
    · omega
    · simp; omega
theorem chg_congr {x y x' y' : Nat → Int} : ∀ n, (∀ i, i < n → x i = x' i) → (∀ i, i < n → y i = y' i) → chg x y n = chg x' y' n
  | 0, _, _ => rfl
  | n + 1, h, k => by
    unfold chg
    rw [chg_congr n (fun i hi => h i (by omega)) (fun i hi => k i (by omega)), h n (by omega), k n (by omega)]

/-- the cells of a list of changes -/
def cellsC (xs : List (Int × Int × Int)) : List Value := xs.flatMap fun c => [.int .i64 c.1, .int .i64 c.2.1, .int .i64 c.2.2]
theorem cellsC_len (xs : List (Int × Int × Int)) : (cellsC xs).length = xs.length * 3 := by
  induction xs with
  | nil => rfl
  | cons a t ih => simp only [cellsC, List.flatMap_cons, List.length_append, List.length_cons, List.length_nil] at ih ⊢; omega
theorem cellsC_snoc (xs : List (Int × Int × Int)) (c : Int × Int × Int) : cellsC (xs ++ [c]) = cellsC xs ++ [.int .i64 c.1, .int .i64 c.2.1, .int .i64 c.2.2] := by simp [cellsC, List.flatMap_append]
theorem cellsC_get : ∀ (xs : List (Int × Int × Int)) (k : Nat) (c : Int × Int × Int), xs[k]? = some c → (cellsC xs)[k * 3]? = some (.int .i64 c.1) ∧ (cellsC xs)[k * 3 + 1]? = some (.int .i64 c.2.1) ∧ (cellsC xs)[k * 3 + 2]? = some (.int .i64 c.2.2)
  | [], k, c, h => by simp at h
  | a :: t, 0, c, h => by
    simp at h
    subst h
    exact ⟨rfl, rfl, rfl⟩
  | a :: t, k + 1, c, h => by
    have := cellsC_get t k c (by simpa using h)
    have e : cellsC (a :: t) = .int .i64 a.1 :: .int .i64 a.2.1 :: .int .i64 a.2.2 :: cellsC t := by simp [cellsC]
    rw [e]
    rw [show (k + 1) * 3 = k * 3 + 3 by omega, show k * 3 + 3 + 1 = k * 3 + 1 + 3 by omega, show k * 3 + 3 + 2 = k * 3 + 2 + 3 by omega]
    simpa using this

/-- the slice of changes lies in a block from lo to hi, not frozen -/
def OwnC (w : World) (lo hi : Nat) (ao : Option Addr) (n : Nat) (f : Nat → Int × Int × Int) : Prop :=
  ∀ k, k < n → ∃ b, ao = some ⟨b, 0, none⟩ ∧ lo ≤ b ∧ b < hi ∧ (w.cell? ⟨b, k * 3, none⟩ = some (.int .i64 (f k).1) ∧ w.cell? ⟨b, k * 3 + 1, none⟩ = some (.int .i64 (f k).2.1) ∧ w.cell? ⟨b, k * 3 + 2, none⟩ = some (.int .i64 (f k).2.2)) ∧ ∀ j, w.frozen? ⟨b, j, none⟩ = false
theorem OwnC.only {w w' : World} {lo hi lo' hi' n : Nat} {ao : Option Addr} {f : Nat → Int × Int × Int} (h : OwnC w lo hi ao n f) (ho : Only lo' hi' w w') (hd : hi ≤ lo' ∨ hi' ≤ lo) : OwnC w' lo hi ao n f := fun k hk => by
  obtain ⟨b, e, h1, h2, ⟨x1, x2, x3⟩, hf⟩ := h k hk
  have hb : b < lo' ∨ hi' ≤ b := by omega
  have hs := block_lt_of_cell x1
  exact ⟨b, e, h1, h2, ⟨ho.cell (p := ⟨b, _, none⟩) hb x1, ho.cell (p := ⟨b, _, none⟩) hb x2, ho.cell (p := ⟨b, _, none⟩) hb x3⟩, fun j => (ho.frozen (p := ⟨b, j, none⟩) hb hs).trans (hf j)⟩
theorem OwnC.keep {w w' : World} {lo hi n : Nat} {ao : Option Addr} {f : Nat → Int × Int × Int} (h : OwnC w lo hi ao n f) (hb : Below w.heap.size w w') : OwnC w' lo hi ao n f := h.only (lo' := hi) (hi' := hi) (.ofBelow hb) (Or.inl (Nat.le_refl _))
theorem OwnC.wide {w : World} {lo hi lo' hi' n : Nat} {ao : Option Addr} {f : Nat → Int × Int × Int} (h : OwnC w lo hi ao n f) (h1 : lo' ≤ lo) (h2 : hi ≤ hi') : OwnC w lo' hi' ao n f := fun k hk => by
  obtain ⟨b, e, q1, q2, hc, hf⟩ := h k hk
  exact ⟨b, e, by omega, by omega, hc, hf⟩
theorem OwnC.congr {w : World} {lo hi n : Nat} {ao : Option Addr} {f g : Nat → Int × Int × Int} (h : OwnC w lo hi ao n f) (e : ∀ k, k < n → f k = g k) : OwnC w lo hi ao n g := fun k hk => by
  obtain ⟨b, ea, q1, q2, hc, hf⟩ := h k hk
  rw [e k hk] at hc
  exact ⟨b, ea, q1, q2, hc, hf⟩

/-- the call returns the list of changes xs, in new memory -/
def RetChg (e : Ending) (lo : Nat) (w' : World) (xs : List (Int × Int × Int)) : Prop :=
  ∃ ao cap, e = .returned (.slice ao xs.length cap) ∧ OwnC w' lo w'.heap.size ao xs.length (fun k => xs.getD k (0, 0, 0))
theorem RetChg.nil {e : Ending} {w' : World} {lo : Nat} (he : e = .returned (.slice none 0 0)) : RetChg e lo w' [] :=
  ⟨none, 0, he, fun _ hk => absurd hk (Nat.not_lt_zero _)⟩
theorem RetChg.wide {e : Ending} {w' : World} {lo lo' : Nat} {xs : List (Int × Int × Int)} (h : RetChg e lo w' xs) (hl : lo' ≤ lo) : RetChg e lo' w' xs := by
  obtain ⟨ao, cap, he, ho⟩ := h
  exact ⟨ao, cap, he, ho.wide hl (Nat.le_refl _)⟩
theorem RetChg.ofOwns {e : Ending} {w' : World} {lo : Nat} {v : Value} {xs : List (Int × Int × Int)} (he : e = .returned v) (h : w'.ownsRow lo 42 3 v xs.length (cellsC xs)) : RetChg e lo w' xs := by
  obtain ⟨h1, ⟨hv, hn⟩ | ⟨g, cap, cur, hv, hg, hh, hcap, _, hcs, htk⟩⟩ := h
  · refine ⟨none, 0, by rw [he, hv, hn], fun k hk => absurd hk (by omega)⟩
  · refine ⟨some ⟨g, 0, none⟩, cap, by rw [he, hv], fun k hk => ⟨g, rfl, hg, (Array.getElem?_eq_some_iff.1 hh).1, ?_, fun j => by simp [World.frozen?, hh]⟩⟩
    have key : ∀ q, q < xs.length * 3 → w'.cell? ⟨g, q, none⟩ = (cellsC xs)[q]? := fun q hq => by
      have e1 : cur.toList[q]? = (cellsC xs)[q]? := by rw [← htk, List.getElem?_take, if_pos (by omega)]
      simp only [World.cell?, hh]
      simp only [Array.getElem?_toList] at e1
      simp only [Option.isSome_none, Bool.false_eq_true, if_false]
      exact e1
    have e2 : xs[k]? = some (xs.getD k (0, 0, 0)) := by simp [hk]
    obtain ⟨x1, x2, x3⟩ := cellsC_get xs k _ e2
    exact ⟨(key _ (by omega)).trans x1, (key _ (by omega)).trans x2, (key _ (by omega)).trans x3⟩

def closed (d : RD) (s : Nat) : RD := { d with op := fun i => if i = s then false else d.op i }
def broken (d : RD) (s l : Nat) : RD := { d with wk := fun i j => if i = s ∧ j = l then false else d.wk i j }

theorem Right.closed {d : RD} (h : Right d) (s : Nat) : Right (closed d s) := ⟨⟨h.s.nN, h.s.nF, h.s.nO, h.s.nW⟩, h.w, h.l⟩
theorem Right.broken {d : RD} (h : Right d) (s l : Nat) : Right (broken d s l) := ⟨⟨h.s.nN, h.s.nF, h.s.nO, h.s.nW⟩, h.w, h.l⟩

/-- what Closing answers -/
def IsClosing (d : RD) (s : Int) (xs : List (Int × Int × Int)) : Prop :=
  (Right d ∧ 0 ≤ s ∧ s < d.nN ∧ ∃ wn sh wn' sh', Least d d.nN wn sh ∧ Least (closed d s.toNat) d.nN wn' sh' ∧ xs = chg sh sh' d.nN) ∨ (¬ (Right d ∧ 0 ≤ s ∧ s < d.nN) ∧ xs = [])
def IsBreaking (d : RD) (s l : Int) (xs : List (Int × Int × Int)) : Prop :=
  (Right d ∧ 0 ≤ s ∧ s < d.nN ∧ 0 ≤ l ∧ l ≤ 3 ∧ ∃ wn sh wn' sh', Least d d.nN wn sh ∧ Least (broken d s.toNat l.toNat) d.nN wn' sh' ∧ xs = chg sh sh' d.nN) ∨ (¬ (Right d ∧ 0 ≤ s ∧ s < d.nN ∧ 0 ≤ l ∧ l ≤ 3) ∧ xs = [])

theorem IsClosing.one {d : RD} {s : Int} {xs ys : List (Int × Int × Int)} (h : IsClosing d s xs) (k : IsClosing d s ys) : xs = ys := by
  rcases h with ⟨a, b, c, _, _, _, _, h1, h2, rfl⟩ | ⟨a, rfl⟩ <;> rcases k with ⟨a', b', c', _, _, _, _, h1', h2', rfl⟩ | ⟨a', rfl⟩
  · exact chg_congr _ (h1.one a.inside h1').2 (h2.one (a.closed _).inside h2').2
  · exact absurd ⟨a, b, c⟩ a'
  · exact absurd ⟨a', b', c'⟩ a
  · rfl
theorem IsBreaking.one {d : RD} {s l : Int} {xs ys : List (Int × Int × Int)} (h : IsBreaking d s l xs) (k : IsBreaking d s l ys) : xs = ys := by
  rcases h with ⟨a, b, c, e, f, _, _, _, _, h1, h2, rfl⟩ | ⟨a, rfl⟩ <;> rcases k with ⟨a', b', c', e', f', _, _, _, _, h1', h2', rfl⟩ | ⟨a', rfl⟩
  · exact chg_congr _ (h1.one a.inside h1').2 (h2.one (a.broken _ _).inside h2').2
  · exact absurd ⟨a, b, c, e, f⟩ a'
  · exact absurd ⟨a', b', c', e', f'⟩ a
  · rfl
theorem IsClosing.le {d : RD} {s : Int} {xs : List (Int × Int × Int)} (h : IsClosing d s xs) : xs.length ≤ 60 := by
  rcases h with ⟨a, b, c, _, _, _, _, h1, h2, rfl⟩ | ⟨a, rfl⟩
  · have := a.s.nN
    exact Nat.le_trans (chg_le _ _ _) this
  · simp
theorem IsBreaking.le {d : RD} {s l : Int} {xs : List (Int × Int × Int)} (h : IsBreaking d s l xs) : xs.length ≤ 60 := by
  rcases h with ⟨a, b, c, e, f, _, _, _, _, h1, h2, rfl⟩ | ⟨a, rfl⟩
  · have := a.s.nN
    exact Nat.le_trans (chg_le _ _ _) this
  · simp

end Go.Proofs.Ytachkoledebanaa
