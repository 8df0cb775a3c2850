/-
  A row that is made by appends, its four lists growing side by side.
-/
import Derived.Test.YtachkoledebanaaOwnT
import Derived.Maps.AppendAt
import Derived.Deep.AppendLies
namespace Go.Proofs.Ytachkoledebanaa
open Go.RowKit

def vN (d : RD) (n : Nat) : List Value := (List.range n).map fun j => .int .i64 (d.nx j)
def vF (d : RD) (n : Nat) : List Value := (List.range n).map fun j => .int .i64 (d.fr j)
def vO (d : RD) (n : Nat) : List Value := (List.range n).map fun j => .bool (d.op j)
def vW (bI : Nat → Nat) (n : Nat) : List Value := (List.range n).map fun j => .slice (some ⟨bI j, 0, none⟩) 4 4
theorem vN_snoc (d : RD) (n : Nat) : vN d (n + 1) = vN d n ++ [.int .i64 (d.nx n)] := by simp [vN, List.range_succ]
theorem vF_snoc (d : RD) (n : Nat) : vF d (n + 1) = vF d n ++ [.int .i64 (d.fr n)] := by simp [vF, List.range_succ]
theorem vO_snoc (d : RD) (n : Nat) : vO d (n + 1) = vO d n ++ [.bool (d.op n)] := by simp [vO, List.range_succ]
theorem vW_snoc (bI : Nat → Nat) (n : Nat) : vW bI (n + 1) = vW bI n ++ [.slice (some ⟨bI n, 0, none⟩) 4 4] := by simp [vW, List.range_succ]
theorem vW_congr {bI bI' : Nat → Nat} {n : Nat} (h : ∀ j, j < n → bI j = bI' j) : vW bI n = vW bI' n := List.map_congr_left fun j hj => by rw [h j (List.mem_range.1 hj)]

/-- the four lists, n1 .. n4 long by now, in blocks from B on; the row itself in block R; of w nothing but block X has turned -/
structure Mk (w : World) (X R B : Nat) (d : RD) (bI : Nat → Nat) (n1 n2 n3 n4 : Nat) (v1 v2 v3 v4 : Value) (wr : World) : Prop where
  on : Only X (X + 1) w wr
  bk : Blk wr R #[v1, v2, v3, v4] 27
  o1 : wr.ownsRow B 3 1 v1 n1 (vN d n1)
  o2 : wr.ownsRow B 3 1 v2 n2 (vF d n2)
  o3 : wr.ownsRow B 4 1 v3 n3 (vO d n3)
  o4 : wr.ownsRow B 24 1 v4 n4 (vW bI n4)
  ap : ∀ g, v1.ownBlock = some g → v2.ownBlock ≠ some g
  inn : ∀ j, j < n4 → wr.rowIs (bI j) 4 4 (fun q => .bool (d.wk j q)) ∧ B ≤ bI j ∧ v3.ownBlock ≠ some (bI j)
  mono : ∀ i j, i < j → j < n4 → bI i < bI j

/-- two rows of different types lie in different blocks -/
theorem own_apart {w : World} {B B' e e' s s' n n' : Nat} {v v' : Value} {xs xs' : List Value} (h : w.ownsRow B e s v n xs) (h' : w.ownsRow B' e' s' v' n' xs') (hne : e ≠ e') : v.ownBlock = none ∨ v.ownBlock ≠ v'.ownBlock := by
  rcases h.2 with ⟨rfl, _⟩ | ⟨g, cap, cur, rfl, _, hg, _⟩
  · exact Or.inl rfl
  · refine Or.inr fun e1 => ?_
    rcases h'.2 with ⟨rfl, _⟩ | ⟨g', cap', cur', rfl, _, hg', _⟩
    · simp [Value.ownBlock] at e1
    · obtain rfl : g = g' := by simpa [Value.ownBlock] using e1
      rw [hg] at hg'
      injection hg' with hg'
      injection hg' with _ hg' _
      exact hne hg'
/-- a row and a block of another type -/
theorem own_row_ne {w : World} {B e s n b t m : Nat} {v : Value} {xs : List Value} {f : Nat → Value} (h : w.ownsRow B e s v n xs) (hr : w.rowIs b t m f) (hne : e ≠ t) : v.ownBlock ≠ some b := fun e1 => by
  rcases h.2 with ⟨rfl, _⟩ | ⟨g, cap, cur, rfl, _, hg, _⟩
  · simp [Value.ownBlock] at e1
  · obtain rfl : g = b := by simpa [Value.ownBlock] using e1
    obtain ⟨c, hc, _⟩ := hr
    rw [hg] at hc
    injection hc with hc
    injection hc with _ hc _
    exact hne hc
theorem rowIs_grown {w w' : World} {b t m : Nat} {f : Nat → Value} {row : Option Nat} (h : w.rowIs b t m f) (hg : w.grownBy w' row) (hne : row ≠ some b) : w'.rowIs b t m f := h.of_block (hg.block b h.lt (fun e => hne e.symm))

/-- where a grown list lies -/
def Near (v v' : Value) (H : Nat) : Prop := v'.ownBlock = v.ownBlock ∨ v'.ownBlock = some H

section
variable {w wr w4 : World} {X R B : Nat} {d : RD} {bI : Nat → Nat} {n1 n2 n3 n4 : Nat} {v1 v2 v3 v4 v' : Value} {o : Obj}

theorem Mk.base (h : Mk w X R B d bI n1 n2 n3 n4 v1 v2 v3 v4 wr) (hRB : R < B) {row : Option Nat} (hw : w.heap.size ≤ R) (hg : (wr.alloc o).grownBy w4 row) (hrow : ∀ g, row = some g → B ≤ g) : Only X (X + 1) w w4 ∧ Blk w4 R #[v1, v2, v3, v4] 27 ∧ wr.heap.size + 1 ≤ w4.heap.size := by
  have hs0 := h.on.size
  have hR := h.bk.lt
  have hs1 : wr.heap.size + 1 ≤ w4.heap.size := by have := hg.size; simpa using this
  have hblk : ∀ j, j < B → j < wr.heap.size → w4.heap[j]? = wr.heap[j]? := fun j hj hl =>
    (hg.block j (by simp; omega) (fun e => by have := hrow j e.symm; omega)).trans (Below.heap_alloc wr o j hl)
  exact ⟨⟨hg.os.trans h.on.os, hg.tape.trans h.on.tape, hg.output.trans h.on.output, by omega, fun j hj hne => (hblk j (by omega) (by omega)).trans (h.on.block j hj hne)⟩, (hblk R hRB hR).trans h.bk, hs1⟩

theorem Mk.appN (h : Mk w X R B d bI n1 n2 n3 n4 v1 v2 v3 v4 wr) (hRB : R < B) (hw : w.heap.size ≤ R) (ho : w4.ownsRow B 3 1 v' (n1 + 1) (vN d n1 ++ [.int .i64 (d.nx n1)])) (hg : (wr.alloc o).grownBy w4 v1.ownBlock) (hat : Near v1 v' (wr.heap.size + 1)) :
    Mk w X R B d bI (n1 + 1) n2 n3 n4 v' v2 v3 v4 (w4.setCell ⟨R, 0, none⟩ v') := by
  have hrow : ∀ g, v1.ownBlock = some g → B ≤ g := fun g e => (h.o1.lt g e).1
  obtain ⟨b1, b2, b3⟩ := h.base hRB hw hg hrow
  have hR : ∀ {e s n : Nat} {v : Value} {xs : List Value}, w4.ownsRow B e s v n xs → (w4.setCell ⟨R, 0, none⟩ v').ownsRow B e s v n xs := fun hv => ownsRow_setCell_other hv (fun e => by have := (hv.lt R e).1; omega) _
  refine ⟨⟨b1.os, b1.tape, b1.output, by simpa using b1.size, fun j hj hne => (Below.heap_setCell w4 ⟨R, 0, none⟩ v' j (by show j ≠ R; omega)).trans (b1.block j hj hne)⟩, by have := b2.set 0 v'; simpa using this, ?_, ?_, ?_, ?_, fun g e => ?_, fun j hj => ?_, h.mono⟩
  · rw [vN_snoc]; exact hR ho
  · refine hR ((h.o2.alloc o).kept hg ?_)
    cases e : v2.ownBlock with
    | none => exact Or.inl rfl
    | some g => exact Or.inr fun e1 => h.ap g e1.symm e
  · exact hR ((h.o3.alloc o).kept hg (own_apart h.o3 h.o1 (by decide)))
  · exact hR ((h.o4.alloc o).kept hg (own_apart h.o4 h.o1 (by decide)))
  · rcases hat with hat | hat
    · exact h.ap g (hat.symm.trans e)
    · intro e2
      have h1 := (h.o2.lt g e2).2
      rw [hat] at e
      injection e with e
      omega
  · obtain ⟨i1, i2, i3⟩ := h.inn j hj
    exact ⟨(rowIs_grown (i1.alloc o) hg (own_row_ne h.o1 i1 (by decide))).setOther (by show bI j ≠ R; omega) _, i2, i3⟩

theorem Mk.appF (h : Mk w X R B d bI n1 n2 n3 n4 v1 v2 v3 v4 wr) (hRB : R < B) (hw : w.heap.size ≤ R) (ho : w4.ownsRow B 3 1 v' (n2 + 1) (vF d n2 ++ [.int .i64 (d.fr n2)])) (hg : (wr.alloc o).grownBy w4 v2.ownBlock) (hat : Near v2 v' (wr.heap.size + 1)) :
    Mk w X R B d bI n1 (n2 + 1) n3 n4 v1 v' v3 v4 (w4.setCell ⟨R, 1, none⟩ v') := by
  have hrow : ∀ g, v2.ownBlock = some g → B ≤ g := fun g e => (h.o2.lt g e).1
  obtain ⟨b1, b2, b3⟩ := h.base hRB hw hg hrow
  have hR : ∀ {e s n : Nat} {v : Value} {xs : List Value}, w4.ownsRow B e s v n xs → (w4.setCell ⟨R, 1, none⟩ v').ownsRow B e s v n xs := fun hv => ownsRow_setCell_other hv (fun e => by have := (hv.lt R e).1; omega) _
  refine ⟨⟨b1.os, b1.tape, b1.output, by simpa using b1.size, fun j hj hne => (Below.heap_setCell w4 ⟨R, 1, none⟩ v' j (by show j ≠ R; omega)).trans (b1.block j hj hne)⟩, by have := b2.set 1 v'; simpa using this, ?_, ?_, ?_, ?_, fun g e => ?_, fun j hj => ?_, h.mono⟩
  · refine hR ((h.o1.alloc o).kept hg ?_)
    cases e : v1.ownBlock with
    | none => exact Or.inl rfl
    | some g => exact Or.inr fun e1 => h.ap g e e1.symm
  · rw [vF_snoc]; exact hR ho
  · exact hR ((h.o3.alloc o).kept hg (own_apart h.o3 h.o2 (by decide)))
  · exact hR ((h.o4.alloc o).kept hg (own_apart h.o4 h.o2 (by decide)))
  · rcases hat with hat | hat
    · rw [hat]; exact h.ap g e
    · rw [hat]
      intro e2
      have h1 := (h.o1.lt g e).2
      injection e2 with e2
      omega
  · obtain ⟨i1, i2, i3⟩ := h.inn j hj
    exact ⟨(rowIs_grown (i1.alloc o) hg (own_row_ne h.o2 i1 (by decide))).setOther (by show bI j ≠ R; omega) _, i2, i3⟩

theorem Mk.appO (h : Mk w X R B d bI n1 n2 n3 n4 v1 v2 v3 v4 wr) (hRB : R < B) (hw : w.heap.size ≤ R) (ho : w4.ownsRow B 4 1 v' (n3 + 1) (vO d n3 ++ [.bool (d.op n3)])) (hg : (wr.alloc o).grownBy w4 v3.ownBlock) (hat : Near v3 v' (wr.heap.size + 1)) :
    Mk w X R B d bI n1 n2 (n3 + 1) n4 v1 v2 v' v4 (w4.setCell ⟨R, 2, none⟩ v') := by
  have hrow : ∀ g, v3.ownBlock = some g → B ≤ g := fun g e => (h.o3.lt g e).1
  obtain ⟨b1, b2, b3⟩ := h.base hRB hw hg hrow
  have hR : ∀ {e s n : Nat} {v : Value} {xs : List Value}, w4.ownsRow B e s v n xs → (w4.setCell ⟨R, 2, none⟩ v').ownsRow B e s v n xs := fun hv => ownsRow_setCell_other hv (fun e => by have := (hv.lt R e).1; omega) _
  refine ⟨⟨b1.os, b1.tape, b1.output, by simpa using b1.size, fun j hj hne => (Below.heap_setCell w4 ⟨R, 2, none⟩ v' j (by show j ≠ R; omega)).trans (b1.block j hj hne)⟩, by have := b2.set 2 v'; simpa using this, ?_, ?_, ?_, ?_, h.ap, fun j hj => ?_, h.mono⟩
  · exact hR ((h.o1.alloc o).kept hg (own_apart h.o1 h.o3 (by decide)))
  · exact hR ((h.o2.alloc o).kept hg (own_apart h.o2 h.o3 (by decide)))
  · rw [vO_snoc]; exact hR ho
  · exact hR ((h.o4.alloc o).kept hg (own_apart h.o4 h.o3 (by decide)))
  · obtain ⟨i1, i2, i3⟩ := h.inn j hj
    refine ⟨(rowIs_grown (i1.alloc o) hg i3).setOther (by show bI j ≠ R; omega) _, i2, ?_⟩
    rcases hat with hat | hat
    · rw [hat]; exact i3
    · rw [hat]
      intro e2
      have h1 := i1.lt
      injection e2 with e2
      omega

theorem Mk.appW {b : Nat} (h : Mk w X R B d bI n1 n2 n3 n4 v1 v2 v3 v4 wr) (hRB : R < B) (hw : w.heap.size ≤ R) (hin : wr.rowIs b 4 4 (fun q => .bool (d.wk n4 q))) (hbB : B ≤ b) (hb3 : v3.ownBlock ≠ some b) (hbm : ∀ j, j < n4 → bI j < b)
    (ho : w4.ownsRow B 24 1 v' (n4 + 1) (vW bI n4 ++ [.slice (some ⟨b, 0, none⟩) 4 4])) (hg : (wr.alloc o).grownBy w4 v4.ownBlock) :
    Mk w X R B d (fun j => if j = n4 then b else bI j) n1 n2 n3 (n4 + 1) v1 v2 v3 v' (w4.setCell ⟨R, 3, none⟩ v') := by
  have hrow : ∀ g, v4.ownBlock = some g → B ≤ g := fun g e => (h.o4.lt g e).1
  obtain ⟨b1, b2, b3⟩ := h.base hRB hw hg hrow
  have hR : ∀ {e s n : Nat} {v : Value} {xs : List Value}, w4.ownsRow B e s v n xs → (w4.setCell ⟨R, 3, none⟩ v').ownsRow B e s v n xs := fun hv => ownsRow_setCell_other hv (fun e => by have := (hv.lt R e).1; omega) _
  refine ⟨⟨b1.os, b1.tape, b1.output, by simpa using b1.size, fun j hj hne => (Below.heap_setCell w4 ⟨R, 3, none⟩ v' j (by show j ≠ R; omega)).trans (b1.block j hj hne)⟩, by have := b2.set 3 v'; simpa using this, ?_, ?_, ?_, ?_, h.ap, fun j hj => ?_, fun i j hij hj => ?_⟩
  · exact hR ((h.o1.alloc o).kept hg (own_apart h.o1 h.o4 (by decide)))
  · exact hR ((h.o2.alloc o).kept hg (own_apart h.o2 h.o4 (by decide)))
  · exact hR ((h.o3.alloc o).kept hg (own_apart h.o3 h.o4 (by decide)))
  · rw [vW_snoc, if_pos rfl, vW_congr (bI' := bI) (fun j hj => by rw [if_neg (by omega)])]; exact hR ho
  · by_cases e : j = n4
    · subst e
      rw [if_pos rfl]
      exact ⟨(rowIs_grown (hin.alloc o) hg (own_row_ne h.o4 hin (by decide))).setOther (by show b ≠ R; omega) _, hbB, hb3⟩
    · rw [if_neg e]
      obtain ⟨i1, i2, i3⟩ := h.inn j (by omega)
      exact ⟨(rowIs_grown (i1.alloc o) hg (own_row_ne h.o4 i1 (by decide))).setOther (by show bI j ≠ R; omega) _, i2, i3⟩
  · by_cases e : j = n4
    · subst e
      rw [if_pos rfl, if_neg (by omega)]
      exact hbm i hij
    · rw [if_neg e, if_neg (by omega)]
      exact h.mono i j hij (by omega)

end

theorem own_shape {w : World} {B e s n : Nat} {v : Value} {xs : List Value} (h : w.ownsRow B e s v n xs) : ∃ ao cap, v = .slice ao n cap := by
  rcases h.2 with ⟨rfl, rfl⟩ | ⟨g, cap, cur, rfl, _⟩
  · exact ⟨_, _, rfl⟩
  · exact ⟨_, _, rfl⟩

theorem near_of {w : World} {o : Obj} {v v' : Value} (h : v'.ownBlock = v.ownBlock ∨ v'.ownBlock = some (w.alloc o).heap.size) : Near v v' (w.heap.size + 1) := by
  unfold Near; simpa using h

theorem near_lies {v : Value} {g n cap H : Nat} (h : v.ownBlock = some g ∨ g = H) : Near v (.slice (some ⟨g, 0, none⟩) n cap) H := by
  rcases h with h | h
  · exact Or.inl h.symm
  · exact Or.inr (by rw [h]; rfl)

end Go.Proofs.Ytachkoledebanaa
