/-
  What the walks of this seat share: a slice's cells by their index ('SlAt'), closed facts on the types.
-/
import Derived.Test.YtachkoledebanaaRows
import Derived.WalkKit
import Derived.WalkSpells
import Derived.WalkLawsBesides
import Derived.Deep.OwnRows
import Derived.Deep.QuietTactic
import Derived.Deep.RegionWith
import Derived.BigQuiet
namespace Go.Proofs.Ytachkoledebanaa
open Go.RowKit

/-- the first n cells behind a slice's address hold f 0, f 1, .. -/
def SlAt (w : World) (ao : Option Addr) (n : Nat) (f : Nat → Value) : Prop :=
  ∀ k, k < n → ∃ b o, ao = some ⟨b, o, none⟩ ∧ w.cell? ⟨b, o + k, none⟩ = some (f k)

theorem SlAt.below {w w' : World} {ao : Option Addr} {n B : Nat} {f : Nat → Value} (h : SlAt w ao n f) (hb : Below B w w') (hB : w.heap.size ≤ B) : SlAt w' ao n f := by
  intro k hk
  obtain ⟨b, o, e, hc⟩ := h k hk
  have hlt := block_lt_of_cell hc
  exact ⟨b, o, e, (hb.cell (p := ⟨b, o + k, none⟩) (Nat.lt_of_lt_of_le hlt hB)).trans hc⟩

theorem SlAt.keep {w w' : World} {ao : Option Addr} {n : Nat} {f : Nat → Value} (h : SlAt w ao n f) (hb : Below w.heap.size w w') : SlAt w' ao n f := h.below hb (Nat.le_refl _)

theorem SlAt.congr {w : World} {ao : Option Addr} {n : Nat} {f g : Nat → Value} (h : SlAt w ao n f) (e : ∀ k, k < n → f k = g k) : SlAt w ao n g := by
  intro k hk
  obtain ⟨b, o, ea, hc⟩ := h k hk
  exact ⟨b, o, ea, by rw [hc, e k hk]⟩

theorem SlAt.ofRow {w : World} {b t n : Nat} {f : Nat → Value} (h : w.rowIs b t n f) : SlAt w (some ⟨b, 0, none⟩) n f :=
  fun k hk => ⟨b, 0, rfl, by rw [Nat.zero_add]; exact h.cell hk⟩

theorem rowIs_below {w w' : World} {B b t n : Nat} {f : Nat → Value} (h : w.rowIs b t n f) (hb : Below B w w') (hB : b < B) : w'.rowIs b t n f :=
  h.of_block (hb.block b hB)

theorem below_drewN {B : Nat} {a w : World} (h : Below B a w) (n : Nat) : Below B a (w.drewN n) := by
  induction n with
  | zero => exact h
  | succ n ih => exact ih.drew

theorem chain {w a b : World} (h : Below w.heap.size w a) (k : Below a.heap.size a b) : Below w.heap.size w b := h.trans (k.mono h.size)

theorem bcell {W w1 : World} (hb : Below W.heap.size W w1) : (∀ b o, b < W.heap.size → w1.cell? ⟨b, o, none⟩ = W.cell? ⟨b, o, none⟩) ∧ (∀ b o, b < W.heap.size → w1.frozen? ⟨b, o, none⟩ = W.frozen? ⟨b, o, none⟩) :=
  ⟨fun b o h => hb.cell (p := ⟨b, o, none⟩) h, fun b o h => hb.frozen (p := ⟨b, o, none⟩) h⟩

/-- block b is these cells, none frozen -/
def Blk (w : World) (b : Nat) (c : Array Value) (t : TypeId) : Prop := w.heap[b]? = some (.cells c t (0, 0))

theorem Blk.cell {w : World} {b t : Nat} {c : Array Value} (h : Blk w b c t) (i : Nat) : w.cell? ⟨b, i, none⟩ = c[i]? := by
  unfold Blk at h; simp [World.cell?, h]
theorem Blk.free {w : World} {b t : Nat} {c : Array Value} (h : Blk w b c t) (i : Nat) : w.frozen? ⟨b, i, none⟩ = false := by
  unfold Blk at h; simp [World.frozen?, h]
theorem Blk.lt {w : World} {b t : Nat} {c : Array Value} (h : Blk w b c t) : b < w.heap.size := by
  obtain ⟨hlt, _⟩ := Array.getElem?_eq_some_iff.1 h
  exact hlt
theorem Blk.below {w w' : World} {B b t : Nat} {c : Array Value} (h : Blk w b c t) (hb : Below B w w') (hB : b < B) : Blk w' b c t :=
  (hb.block b hB).trans h
theorem Blk.keep {w w' : World} {b t : Nat} {c : Array Value} (h : Blk w b c t) (hb : Below w.heap.size w w') : Blk w' b c t := h.below hb h.lt
theorem Blk.new (w : World) (c : Array Value) (t : TypeId) : Blk (w.alloc (.cells c t)) w.heap.size c t := by
  show (w.heap.push _)[w.heap.size]? = _
  simp
theorem Blk.alloc {w : World} {b t : Nat} {c : Array Value} (h : Blk w b c t) (o : Obj) : Blk (w.alloc o) b c t :=
  (Below.heap_alloc w o b h.lt).trans h
theorem Blk.set {w : World} {b t : Nat} {c : Array Value} (h : Blk w b c t) (i : Nat) (v : Value) : Blk (w.setCell ⟨b, i, none⟩ v) b (c.setIfInBounds i v) t := by
  unfold Blk at h ⊢
  simp [World.setCell, Array.getElem?_modify, h]
theorem Blk.other {w : World} {b t : Nat} {c : Array Value} (h : Blk w b c t) {a : Addr} (ha : b ≠ a.block) (v : Value) : Blk (w.setCell a v) b c t :=
  (Below.heap_setCell w a v b ha).trans h
theorem Blk.drew {w : World} {b t : Nat} {c : Array Value} (h : Blk w b c t) : Blk w.drew b c t := h
theorem Blk.drewN {w : World} {b t : Nat} {c : Array Value} (h : Blk w b c t) (n : Nat) : Blk (w.drewN n) b c t := h.keep (below_drewN (Below.refl _ _) n)

/-- a store into one's own memory: what lies in other blocks stays -/
theorem SlAt.other {w : World} {ao : Option Addr} {n : Nat} {f : Nat → Value} (h : SlAt w ao n f) {a : Addr} (ha : ∀ b o, ao = some ⟨b, o, none⟩ → b ≠ a.block) (v : Value) : SlAt (w.setCell a v) ao n f := by
  intro k hk
  obtain ⟨b, o, e, hc⟩ := h k hk
  exact ⟨b, o, e, (World.cell?_of_block (w := w) (Below.heap_setCell w a v b (ha b o e))).trans hc⟩

theorem ret_int {k : IntKind} {a b : Int} (h : a = b) : Ending.returned (.int k a) = .returned (.int k b) := by rw [h]
theorem ret_bool {a b : Bool} (h : a = b) : Ending.returned (.bool a) = .returned (.bool b) := by rw [h]

theorem Try.uInts : Try.prog.underlying 23 = some (.slice 3) := by kernel_rfl
theorem Try.uBools : Try.prog.underlying 24 = some (.slice 4) := by kernel_rfl
theorem Try.uBoolss : Try.prog.underlying 25 = some (.slice 24) := by kernel_rfl
theorem Try.iInt : (Try.prog.info? 3).map (fun i => (i.zero, i.size, i.bytes)) = some (some (.int .i64 0), 1, 8) := by kernel_rfl
theorem Try.iBool : (Try.prog.info? 4).map (fun i => (i.zero, i.size, i.bytes)) = some (some (.bool false), 1, 1) := by kernel_rfl
theorem Try.iBools : (Try.prog.info? 24).map (fun i => (i.zero, i.size, i.bytes)) = some (some (.slice none 0 0), 1, 24) := by kernel_rfl

end Go.Proofs.Ytachkoledebanaa
