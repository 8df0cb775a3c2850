/-
  Marks: markIntS, markBoolS, markBoolSS, markRow write into their argument's own blocks alone.
-/
import Derived.Test.YtachkoledebanabDoorRow
namespace Go.Proofs.YtachkoledebanabDoor
open Go.RowKit

/-- of what was there, the blocks from lo to hi alone may have turned -/
structure Only (lo hi : Nat) (w w' : World) : Prop where
  os : w'.os = w.os
  tape : w'.tape = w.tape
  output : w'.output = w.output
  size : w.heap.size ≤ w'.heap.size
  block : ∀ k, k < w.heap.size → (k < lo ∨ hi ≤ k) → w'.heap[k]? = w.heap[k]?

theorem Only.refl (lo hi : Nat) (w : World) : Only lo hi w w := ⟨rfl, rfl, rfl, Nat.le_refl _, fun _ _ _ => rfl⟩
theorem Only.trans {lo hi : Nat} {a b c : World} (h : Only lo hi a b) (k : Only lo hi b c) : Only lo hi a c :=
  ⟨k.os.trans h.os, k.tape.trans h.tape, k.output.trans h.output, Nat.le_trans h.size k.size, fun i hi' ho => (k.block i (Nat.lt_of_lt_of_le hi' h.size) ho).trans (h.block i hi' ho)⟩
theorem Only.wide {lo hi lo' hi' : Nat} {w w' : World} (h : Only lo hi w w') (h1 : lo' ≤ lo) (h2 : hi ≤ hi') : Only lo' hi' w w' :=
  ⟨h.os, h.tape, h.output, h.size, fun k hk ho => h.block k hk (by omega)⟩
theorem Only.ofBelow {lo hi : Nat} {w w' : World} (h : Below w.heap.size w w') : Only lo hi w w' :=
  ⟨h.os, h.tape, h.output, h.size, fun k hk _ => h.block k hk⟩
theorem Only.below {lo hi B : Nat} {w w' : World} (h : Only lo hi w w') (h1 : B ≤ lo) (h2 : B ≤ w.heap.size) : Below B w w' :=
  ⟨h.os, h.tape, h.output, h.size, fun k hk => h.block k (by omega) (Or.inl (by omega))⟩
theorem Only.setCell {lo hi : Nat} {a w : World} (h : Only lo hi a w) {p : Addr} (h1 : lo ≤ p.block) (h2 : p.block < hi) (v : Value) : Only lo hi a (w.setCell p v) :=
  h.trans ⟨rfl, rfl, rfl, by simp, fun k _ ho => Below.heap_setCell _ _ _ _ (by omega)⟩
theorem Only.cell {lo hi : Nat} {w w' : World} (h : Only lo hi w w') {p : Addr} (hp : p.block < lo ∨ hi ≤ p.block) {v : Value} (hc : w.cell? p = some v) : w'.cell? p = some v :=
  (World.cell?_of_block (w := w) (h.block p.block (block_lt_of_cell hc) hp)).trans hc
theorem Only.frozen {lo hi : Nat} {w w' : World} (h : Only lo hi w w') {p : Addr} (hp : p.block < lo ∨ hi ≤ p.block) (hs : p.block < w.heap.size) : w'.frozen? p = w.frozen? p :=
  World.frozen?_of_block (w := w) (h.block p.block hs hp)
theorem Only.rowIs {lo hi b t n : Nat} {f : Nat → Value} {w w' : World} (h : Only lo hi w w') (hr : w.rowIs b t n f) (hp : b < lo ∨ hi ≤ b) : w'.rowIs b t n f := hr.of_block (h.block b hr.lt hp)
theorem Only.blk {lo hi b t : Nat} {c : Array Value} {w w' : World} (h : Only lo hi w w') (hr : Blk w b c t) (hp : b < lo ∨ hi ≤ b) : Blk w' b c t := (h.block b hr.lt hp).trans hr

/-- the slice lies in a block from lo to hi, not frozen, its cells f 0, f 1, .. -/
def OwnS (w : World) (lo hi : Nat) (ao : Option Addr) (n : Nat) (f : Nat → Value) : Prop :=
  ∀ k, k < n → ∃ b, ao = some ⟨b, 0, none⟩ ∧ lo ≤ b ∧ b < hi ∧ w.cell? ⟨b, k, none⟩ = some (f k) ∧ w.frozen? ⟨b, k, none⟩ = false

theorem OwnS.sl {w : World} {lo hi n : Nat} {ao : Option Addr} {f : Nat → Value} (h : OwnS w lo hi ao n f) : SlAt w ao n f := fun k hk => by
  obtain ⟨b, e, _, _, hc, _⟩ := h k hk
  exact ⟨b, 0, e, by rw [Nat.zero_add]; exact hc⟩
theorem OwnS.only {w w' : World} {lo hi lo' hi' n : Nat} {ao : Option Addr} {f : Nat → Value} (h : OwnS w lo hi ao n f) (ho : Only lo' hi' w w') (hd : hi ≤ lo' ∨ hi' ≤ lo) : OwnS w' lo hi ao n f := fun k hk => by
  obtain ⟨b, e, h1, h2, hc, hf⟩ := h k hk
  exact ⟨b, e, h1, h2, ho.cell (p := ⟨b, k, none⟩) (by show b < lo' ∨ hi' ≤ b; omega) hc, (ho.frozen (p := ⟨b, k, none⟩) (by show b < lo' ∨ hi' ≤ b; omega) (block_lt_of_cell hc)).trans hf⟩
theorem OwnS.keep {w w' : World} {lo hi n : Nat} {ao : Option Addr} {f : Nat → Value} (h : OwnS w lo hi ao n f) (hb : Below w.heap.size w w') : OwnS w' lo hi ao n f :=
  h.only (lo' := hi) (hi' := hi) (.ofBelow hb) (Or.inl (Nat.le_refl _))
theorem OwnS.ofRow {w : World} {lo hi b t n : Nat} {f : Nat → Value} (h : w.rowIs b t n f) (h1 : lo ≤ b) (h2 : b < hi) : OwnS w lo hi (some ⟨b, 0, none⟩) n f := fun k hk => ⟨b, rfl, h1, h2, h.cell hk, h.frozen k⟩
theorem OwnS.wide {w : World} {lo hi lo' hi' n : Nat} {ao : Option Addr} {f : Nat → Value} (h : OwnS w lo hi ao n f) (h1 : lo' ≤ lo) (h2 : hi ≤ hi') : OwnS w lo' hi' ao n f := fun k hk => by
  obtain ⟨b, e, q1, q2, hc, hf⟩ := h k hk
  exact ⟨b, e, by omega, by omega, hc, hf⟩
theorem OwnS.congr {w : World} {lo hi n : Nat} {ao : Option Addr} {f g : Nat → Value} (h : OwnS w lo hi ao n f) (e : ∀ k, k < n → f k = g k) : OwnS w lo hi ao n g := fun k hk => by
  obtain ⟨b, ea, q1, q2, hc, hf⟩ := h k hk
  exact ⟨b, ea, q1, q2, by rw [hc, e k hk], hf⟩
/-- a store into one of its cells -/
theorem OwnS.store {w : World} {lo hi n b k : Nat} {f : Nat → Value} (h : OwnS w lo hi (some ⟨b, 0, none⟩) n f) (v : Value) : OwnS (w.setCell ⟨b, k, none⟩ v) lo hi (some ⟨b, 0, none⟩) n (fun j => if j = k then v else f j) := fun j hj => by
  obtain ⟨b', e, q1, q2, hc, hf⟩ := h j hj
  obtain rfl : b = b' := by simpa using e
  refine ⟨b, rfl, q1, q2, ?_, ?_⟩
  · show _ = some (if j = k then v else f j)
    by_cases ej : j = k
    · subst ej
      rw [if_pos rfl]
      exact World.cell?_setCell_same _ _ _ hc
    · rw [if_neg ej]
      exact (World.cell?_setCell_other w ⟨b, k, none⟩ ⟨b, j, none⟩ v (fun e => ej (by cases e; rfl))).trans hc
  · rw [World.frozen?_setCell]
    exact hf

end Go.Proofs.YtachkoledebanabDoor
