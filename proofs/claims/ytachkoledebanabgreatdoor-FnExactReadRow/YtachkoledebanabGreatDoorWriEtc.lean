import Derived.Test.YtachkoledebanabGreatDoorStrEtc
import Derived.Test.YtachkoledebanabGreatDoorBldEtc
import Derived.Maps.AppendAt
import Derived.Deep.AppendLies
import Derived.Test.YtachkoledebanabGreatDoorLmI
namespace Go.Proofs.YtachkoledebanabGreatDoor
open Go.RowKit

def rowTxt (d : RD) : Nat → List UInt8
  | 0 => []
  | i + 1 => rowTxt d i ++ (lineTxt d i ++ [10])
def IsText (d : RD) (xs : List UInt8) : Prop := (Right d ∧ xs = rowTxt d d.nN) ∨ (¬ Right d ∧ xs = [])
theorem IsText.one {d : RD} {xs ys : List UInt8} (h : IsText d xs) (k : IsText d ys) : xs = ys := by
  rcases h with ⟨a, rfl⟩ | ⟨a, rfl⟩ <;> rcases k with ⟨a', rfl⟩ | ⟨a', rfl⟩
  · rfl
  · exact absurd a a'
  · exact absurd a' a
  · rfl
theorem Right.tell {d : RD} (h : Right d) {i : Nat} (hi : i < d.nN) : Tellable d i := by
  have h1 : OkWay d i := h.w i hi
  unfold OkWay at h1
  have h2 := h.s.nN
  have h3 := h.s.nF
  have h4 := h.s.nO
  have h5 := h.s.nW
  exact ⟨hi, by omega, by omega, by omega, h.l i (by omega), by omega, by omega, by omega⟩
theorem rowTxt_len {d : RD} (h : Right d) : ∀ k, k ≤ d.nN → (rowTxt d k).length ≤ 101 * k
  | 0, _ => by simp [rowTxt]
  | k + 1, hk => by
    have ih := rowTxt_len h k (by omega)
    have := line_len (h.tell (show k < d.nN by omega))
    unfold rowTxt
    simp only [List.length_append, List.length_cons, List.length_nil]
    omega

end Go.Proofs.YtachkoledebanabGreatDoor

namespace Go.Proofs.YtachkoledebanabGreatDoor
open Go.RowKit

/-- the lines of a text, and what is left behind the last newline -/
def linesA : List UInt8 → List UInt8 → List (List UInt8) × List UInt8
  | cur, [] => ([], cur)
  | cur, c :: l => if c = 10 then (cur :: (linesA [] l).1, (linesA [] l).2) else linesA (cur ++ [c]) l

def NoNl (l : List UInt8) : Prop := ∀ c ∈ l, c ≠ 10
theorem linesA_nonl : ∀ (x cur y : List UInt8), NoNl x → linesA cur (x ++ y) = linesA (cur ++ x) y
  | [], cur, y, _ => by simp
  | c :: x, cur, y, h => by
    show (if c = 10 then _ else linesA (cur ++ [c]) (x ++ y)) = _
    rw [if_neg (h c (by simp)), linesA_nonl x (cur ++ [c]) y (fun z hz => h z (by simp [hz]))]
    simp
theorem linesA_cons {x y : List UInt8} (h : NoNl x) : linesA [] (x ++ ([10] ++ y)) = (x :: (linesA [] y).1, (linesA [] y).2) := by
  rw [linesA_nonl x [] _ h]
  rfl

/-- signals as a row -/
def nilSg : Sg := ⟨false, fun _ => false, 0, 0⟩
def rowsOf (gs : List Sg) : RD := ⟨gs.length, fun i => (gs.getD i nilSg).nx, gs.length, fun i => (gs.getD i nilSg).fr, gs.length, fun i => (gs.getD i nilSg).op, gs.length, fun _ => 4, fun i => (gs.getD i nilSg).wk⟩

/-- each line is a signal's -/
def Reads : List (List UInt8) → List Sg → Prop
  | [], gs => gs = []
  | l :: ls, gs => ∃ g gs', gs = g :: gs' ∧ IsLine l g ∧ Reads ls gs'
theorem Reads.one : ∀ {ls : List (List UInt8)} {gs gs' : List Sg}, Reads ls gs → Reads ls gs' → gs = gs'
  | [], _, _, h, k => by rw [show _ = _ from h, show _ = _ from k]
  | l :: ls, _, _, ⟨g, gs, e, h1, h2⟩, ⟨g', gs', e', k1, k2⟩ => by rw [e, e', h1.one k1, h2.one k2]
theorem Reads.len : ∀ {ls : List (List UInt8)} {gs : List Sg}, Reads ls gs → gs.length = ls.length
  | [], _, h => by rw [show _ = _ from h]; rfl
  | l :: ls, _, ⟨g, gs, e, _, h2⟩ => by rw [e, List.length_cons, List.length_cons, h2.len]
theorem Reads.snoc : ∀ {ls : List (List UInt8)} {gs : List Sg} {l : List UInt8} {g : Sg}, Reads ls gs → IsLine l g → Reads (ls ++ [l]) (gs ++ [g])
  | [], _, l, g, h, k => by rw [show _ = _ from h]; exact ⟨g, [], rfl, k, rfl⟩
  | x :: ls, _, l, g, ⟨g', gs', e, h1, h2⟩, k => by rw [e]; exact ⟨g', gs' ++ [g], rfl, h1, h2.snoc k⟩
theorem Reads.pre : ∀ {xs ys : List (List UInt8)} {gs : List Sg}, Reads (xs ++ ys) gs → ∃ gs', Reads xs gs'
  | [], _, _, _ => ⟨[], rfl⟩
  | x :: xs, ys, _, ⟨g, gs', _, h1, h2⟩ => by
    obtain ⟨gs'', h3⟩ := Reads.pre h2
    exact ⟨g :: gs'', g, gs'', rfl, h1, h3⟩
theorem Reads.mem : ∀ {ls : List (List UInt8)} {gs : List Sg}, Reads ls gs → ∀ l ∈ ls, ∃ g, IsLine l g
  | [], _, _, l, hl => by cases hl
  | x :: ls, _, ⟨g, gs', _, h1, h2⟩, l, hl => by
    rcases List.mem_cons.1 hl with rfl | hl
    · exact ⟨g, h1⟩
    · exact h2.mem l hl

/-- what is told of lines and of what is left: the first wrong one, or the signals -/
structure Bad (ls : List (List UInt8)) (k : Nat) : Prop where
  lt : k < ls.length
  pre : ∃ gs, Reads (ls.take k) gs
  no : ∀ g, ¬ IsLine (ls.getD k []) g
theorem Bad.one {ls : List (List UInt8)} {k k' : Nat} (h : Bad ls k) (h' : Bad ls k') : k = k' := by
  have key : ∀ {a b : Nat}, Bad ls a → Bad ls b → ¬ a < b := fun {a b} ha hb hab => by
    obtain ⟨gs, hg⟩ := hb.pre
    have hm : ls.getD a [] ∈ ls.take b := by
      rw [List.mem_take_iff_getElem]
      have hl := ha.lt
      exact ⟨a, by omega, by simp [hl]⟩
    obtain ⟨g, h1⟩ := hg.mem _ hm
    exact ha.no g h1
  have h1 := key h h'
  have h2 := key h' h
  omega
theorem Bad.not {ls : List (List UInt8)} {k : Nat} {gs : List Sg} (h : Bad ls k) (h' : Reads ls gs) : False := by
  obtain ⟨g, hg⟩ := h'.mem (ls.getD k []) (by have := h.lt; simp [this])
  exact h.no g hg

def IsTold (xs : List UInt8) (code line : Int) (gs : List Sg) : Prop :=
  (10000 < xs.length ∧ code = 2 ∧ line = 0 ∧ gs = []) ∨
  (xs.length ≤ 10000 ∧ ∃ k, Bad (linesA [] xs).1 k ∧ code = 1 ∧ line = k + 1 ∧ gs = []) ∨
  (xs.length ≤ 10000 ∧ ∃ gs', Reads (linesA [] xs).1 gs' ∧ (linesA [] xs).2 ≠ [] ∧ code = 1 ∧ line = gs'.length + 1 ∧ gs = []) ∨
  (xs.length ≤ 10000 ∧ ∃ gs', Reads (linesA [] xs).1 gs' ∧ (linesA [] xs).2 = [] ∧ ((¬ Right (rowsOf gs') ∧ code = 3 ∧ line = 0 ∧ gs = []) ∨ (Right (rowsOf gs') ∧ code = 0 ∧ line = 0 ∧ gs = gs')))

theorem IsTold.one {xs : List UInt8} {c l c' l' : Int} {gs gs' : List Sg} (h : IsTold xs c l gs) (k : IsTold xs c' l' gs') : c = c' ∧ l = l' ∧ gs = gs' := by
  rcases h with ⟨h0, rfl, rfl, rfl⟩ | ⟨h0, a, hb, rfl, rfl, rfl⟩ | ⟨h0, g, hr, hn, rfl, rfl, rfl⟩ | ⟨h0, g, hr, hn, h⟩ <;>
    rcases k with ⟨k0, rfl, rfl, rfl⟩ | ⟨k0, a', kb, rfl, rfl, rfl⟩ | ⟨k0, g', kr, kn, rfl, rfl, rfl⟩ | ⟨k0, g', kr, kn, k⟩
  · exact ⟨rfl, rfl, rfl⟩
  · omega
  · omega
  · omega
  · omega
  · rw [hb.one kb]; exact ⟨rfl, rfl, rfl⟩
  · exact (hb.not kr).elim
  · exact (hb.not kr).elim
  · omega
  · exact (kb.not hr).elim
  · rw [hr.one kr]; exact ⟨rfl, rfl, rfl⟩
  · exact absurd kn hn
  · omega
  · exact (kb.not hr).elim
  · exact absurd hn kn
  · obtain rfl := hr.one kr
    rcases h with ⟨q, rfl, rfl, rfl⟩ | ⟨q, rfl, rfl, rfl⟩ <;> rcases k with ⟨q', rfl, rfl, rfl⟩ | ⟨q', rfl, rfl, rfl⟩
    · exact ⟨rfl, rfl, rfl⟩
    · exact absurd q' q
    · exact absurd q q'
    · exact ⟨rfl, rfl, rfl⟩

end Go.Proofs.YtachkoledebanabGreatDoor

namespace Go.Proofs.YtachkoledebanabGreatDoor
open Go.RowKit

def vN (d : RD) (n : Nat) : List Value := (List.range n).map fun j => .int .i64 (d.nx j)
def vF (d : RD) (n : Nat) : List Value := (List.range n).map fun j => .int .i64 (d.fr j)
def vO (d : RD) (n : Nat) : List Value := (List.range n).map fun j => .bool (d.op j)
def vW (bI : Nat → Nat) (n : Nat) : List Value := (List.range n).map fun j => .slice (some ⟨bI j, 0, none⟩) 4 4
theorem vN_snoc (d : RD) (n : Nat) : vN d (n + 1) = vN d n ++ [.int .i64 (d.nx n)] := by simp [vN, List.range_succ]
theorem vF_snoc (d : RD) (n : Nat) : vF d (n + 1) = vF d n ++ [.int .i64 (d.fr n)] := by simp [vF, List.range_succ]
theorem vO_snoc (d : RD) (n : Nat) : vO d (n + 1) = vO d n ++ [.bool (d.op n)] := by simp [vO, List.range_succ]
theorem vW_snoc (bI : Nat → Nat) (n : Nat) : vW bI (n + 1) = vW bI n ++ [.slice (some ⟨bI n, 0, none⟩) 4 4] := by simp [vW, List.range_succ]
theorem vW_congr {bI bI' : Nat → Nat} {n : Nat} (h : ∀ j, j < n → bI j = bI' j) : vW bI n = vW bI' n := List.map_congr_left fun j hj => by rw [h j (List.mem_range.1 hj)]

/-- the four lists, n1 .. n4 long by now, in blocks from B on; the row itself in block R; of w nothing but block X has turned -/
structure Mk (w : World) (X R B : Nat) (d : RD) (bI : Nat → Nat) (n1 n2 n3 n4 : Nat) (v1 v2 v3 v4 : Value) (wr : World) : Prop where
  on : Only X (X + 1) w wr
  bk : Blk wr R #[v1, v2, v3, v4] 26
  o1 : wr.ownsRow B 3 1 v1 n1 (vN d n1)
  o2 : wr.ownsRow B 3 1 v2 n2 (vF d n2)
  o3 : wr.ownsRow B 4 1 v3 n3 (vO d n3)
  o4 : wr.ownsRow B 23 1 v4 n4 (vW bI n4)
  ap : ∀ g, v1.ownBlock = some g → v2.ownBlock ≠ some g
  inn : ∀ j, j < n4 → wr.rowIs (bI j) 4 4 (fun q => .bool (d.wk j q)) ∧ B ≤ bI j ∧ v3.ownBlock ≠ some (bI j)
  mono : ∀ i j, i < j → j < n4 → bI i < bI j

/-- two rows of different types lie in different blocks -/
theorem own_apart {w : World} {B B' e e' s s' n n' : Nat} {v v' : Value} {xs xs' : List Value} (h : w.ownsRow B e s v n xs) (h' : w.ownsRow B' e' s' v' n' xs') (hne : e ≠ e') : v.ownBlock = none ∨ v.ownBlock ≠ v'.ownBlock := by
  rcases h.2 with ⟨rfl, _⟩ | ⟨g, cap, cur, rfl, _, hg, _⟩
  · exact Or.inl rfl
  · refine Or.inr fun e1 => ?_
    rcases h'.2 with ⟨rfl, _⟩ | ⟨g', cap', cur', rfl, _, hg', _⟩
    · simp [Value.ownBlock] at e1
    · obtain rfl : g = g' := by simpa [Value.ownBlock] using e1
      rw [hg] at hg'
      injection hg' with hg'
      injection hg' with _ hg' _
      exact hne hg'
/-- a row and a block of another type -/
theorem own_row_ne {w : World} {B e s n b t m : Nat} {v : Value} {xs : List Value} {f : Nat → Value} (h : w.ownsRow B e s v n xs) (hr : w.rowIs b t m f) (hne : e ≠ t) : v.ownBlock ≠ some b := fun e1 => by
  rcases h.2 with ⟨rfl, _⟩ | ⟨g, cap, cur, rfl, _, hg, _⟩
  · simp [Value.ownBlock] at e1
  · obtain rfl : g = b := by simpa [Value.ownBlock] using e1
    obtain ⟨c, hc, _⟩ := hr
    rw [hg] at hc
    injection hc with hc
    injection hc with _ hc _
    exact hne hc
theorem rowIs_grown {w w' : World} {b t m : Nat} {f : Nat → Value} {row : Option Nat} (h : w.rowIs b t m f) (hg : w.grownBy w' row) (hne : row ≠ some b) : w'.rowIs b t m f := h.of_block (hg.block b h.lt (fun e => hne e.symm))

/-- where a grown list lies -/
def Near (v v' : Value) (H : Nat) : Prop := v'.ownBlock = v.ownBlock ∨ v'.ownBlock = some H

section
variable {w wr w4 : World} {X R B : Nat} {d : RD} {bI : Nat → Nat} {n1 n2 n3 n4 : Nat} {v1 v2 v3 v4 v' : Value} {o : Obj}

theorem Mk.base (h : Mk w X R B d bI n1 n2 n3 n4 v1 v2 v3 v4 wr) (hRB : R < B) {row : Option Nat} (hw : w.heap.size ≤ R) (hg : (wr.alloc o).grownBy w4 row) (hrow : ∀ g, row = some g → B ≤ g) : Only X (X + 1) w w4 ∧ Blk w4 R #[v1, v2, v3, v4] 26 ∧ wr.heap.size + 1 ≤ w4.heap.size := by
  have hs0 := h.on.size
  have hR := h.bk.lt
  have hs1 : wr.heap.size + 1 ≤ w4.heap.size := by have := hg.size; simpa using this
  have hblk : ∀ j, j < B → j < wr.heap.size → w4.heap[j]? = wr.heap[j]? := fun j hj hl =>
    (hg.block j (by simp; omega) (fun e => by have := hrow j e.symm; omega)).trans (Below.heap_alloc wr o j hl)
  exact ⟨⟨hg.os.trans h.on.os, hg.tape.trans h.on.tape, hg.output.trans h.on.output, by omega, fun j hj hne => (hblk j (by omega) (by omega)).trans (h.on.block j hj hne)⟩, (hblk R hRB hR).trans h.bk, hs1⟩

theorem Mk.appN (h : Mk w X R B d bI n1 n2 n3 n4 v1 v2 v3 v4 wr) (hRB : R < B) (hw : w.heap.size ≤ R) (ho : w4.ownsRow B 3 1 v' (n1 + 1) (vN d n1 ++ [.int .i64 (d.nx n1)])) (hg : (wr.alloc o).grownBy w4 v1.ownBlock) (hat : Near v1 v' (wr.heap.size + 1)) :
    Mk w X R B d bI (n1 + 1) n2 n3 n4 v' v2 v3 v4 (w4.setCell ⟨R, 0, none⟩ v') := by
  have hrow : ∀ g, v1.ownBlock = some g → B ≤ g := fun g e => (h.o1.lt g e).1
  obtain ⟨b1, b2, b3⟩ := h.base hRB hw hg hrow
  have hR : ∀ {e s n : Nat} {v : Value} {xs : List Value}, w4.ownsRow B e s v n xs → (w4.setCell ⟨R, 0, none⟩ v').ownsRow B e s v n xs := fun hv => ownsRow_setCell_other hv (fun e => by have := (hv.lt R e).1; omega) _
  refine ⟨⟨b1.os, b1.tape, b1.output, by simpa using b1.size, fun j hj hne => (Below.heap_setCell w4 ⟨R, 0, none⟩ v' j (by show j ≠ R; omega)).trans (b1.block j hj hne)⟩, by have := b2.set 0 v'; simpa using this, ?_, ?_, ?_, ?_, fun g e => ?_, fun j hj => ?_, h.mono⟩
  · rw [vN_snoc]; exact hR ho
  · refine hR ((h.o2.alloc o).kept hg ?_)
    cases e : v2.ownBlock with
    | none => exact Or.inl rfl
    | some g => exact Or.inr fun e1 => h.ap g e1.symm e
  · exact hR ((h.o3.alloc o).kept hg (own_apart h.o3 h.o1 (by decide)))
  · exact hR ((h.o4.alloc o).kept hg (own_apart h.o4 h.o1 (by decide)))
  · rcases hat with hat | hat
    · exact h.ap g (hat.symm.trans e)
    · intro e2
      have h1 := (h.o2.lt g e2).2
      rw [hat] at e
      injection e with e
      omega
  · obtain ⟨i1, i2, i3⟩ := h.inn j hj
    exact ⟨(rowIs_grown (i1.alloc o) hg (own_row_ne h.o1 i1 (by decide))).setOther (by show bI j ≠ R; omega) _, i2, i3⟩

theorem Mk.appF (h : Mk w X R B d bI n1 n2 n3 n4 v1 v2 v3 v4 wr) (hRB : R < B) (hw : w.heap.size ≤ R) (ho : w4.ownsRow B 3 1 v' (n2 + 1) (vF d n2 ++ [.int .i64 (d.fr n2)])) (hg : (wr.alloc o).grownBy w4 v2.ownBlock) (hat : Near v2 v' (wr.heap.size + 1)) :
    Mk w X R B d bI n1 (n2 + 1) n3 n4 v1 v' v3 v4 (w4.setCell ⟨R, 1, none⟩ v') := by
  have hrow : ∀ g, v2.ownBlock = some g → B ≤ g := fun g e => (h.o2.lt g e).1
  obtain ⟨b1, b2, b3⟩ := h.base hRB hw hg hrow
  have hR : ∀ {e s n : Nat} {v : Value} {xs : List Value}, w4.ownsRow B e s v n xs → (w4.setCell ⟨R, 1, none⟩ v').ownsRow B e s v n xs := fun hv => ownsRow_setCell_other hv (fun e => by have := (hv.lt R e).1; omega) _
  refine ⟨⟨b1.os, b1.tape, b1.output, by simpa using b1.size, fun j hj hne => (Below.heap_setCell w4 ⟨R, 1, none⟩ v' j (by show j ≠ R; omega)).trans (b1.block j hj hne)⟩, by have := b2.set 1 v'; simpa using this, ?_, ?_, ?_, ?_, fun g e => ?_, fun j hj => ?_, h.mono⟩
  · refine hR ((h.o1.alloc o).kept hg ?_)
    cases e : v1.ownBlock with
    | none => exact Or.inl rfl
    | some g => exact Or.inr fun e1 => h.ap g e e1.symm
  · rw [vF_snoc]; exact hR ho
  · exact hR ((h.o3.alloc o).kept hg (own_apart h.o3 h.o2 (by decide)))
  · exact hR ((h.o4.alloc o).kept hg (own_apart h.o4 h.o2 (by decide)))
  · rcases hat with hat | hat
    · rw [hat]; exact h.ap g e
    · rw [hat]
      intro e2
      have h1 := (h.o1.lt g e).2
      injection e2 with e2
      omega
  · obtain ⟨i1, i2, i3⟩ := h.inn j hj
    exact ⟨(rowIs_grown (i1.alloc o) hg (own_row_ne h.o2 i1 (by decide))).setOther (by show bI j ≠ R; omega) _, i2, i3⟩

theorem Mk.appO (h : Mk w X R B d bI n1 n2 n3 n4 v1 v2 v3 v4 wr) (hRB : R < B) (hw : w.heap.size ≤ R) (ho : w4.ownsRow B 4 1 v' (n3 + 1) (vO d n3 ++ [.bool (d.op n3)])) (hg : (wr.alloc o).grownBy w4 v3.ownBlock) (hat : Near v3 v' (wr.heap.size + 1)) :
    Mk w X R B d bI n1 n2 (n3 + 1) n4 v1 v2 v' v4 (w4.setCell ⟨R, 2, none⟩ v') := by
  have hrow : ∀ g, v3.ownBlock = some g → B ≤ g := fun g e => (h.o3.lt g e).1
  obtain ⟨b1, b2, b3⟩ := h.base hRB hw hg hrow
  have hR : ∀ {e s n : Nat} {v : Value} {xs : List Value}, w4.ownsRow B e s v n xs → (w4.setCell ⟨R, 2, none⟩ v').ownsRow B e s v n xs := fun hv => ownsRow_setCell_other hv (fun e => by have := (hv.lt R e).1; omega) _
  refine ⟨⟨b1.os, b1.tape, b1.output, by simpa using b1.size, fun j hj hne => (Below.heap_setCell w4 ⟨R, 2, none⟩ v' j (by show j ≠ R; omega)).trans (b1.block j hj hne)⟩, by have := b2.set 2 v'; simpa using this, ?_, ?_, ?_, ?_, h.ap, fun j hj => ?_, h.mono⟩
  · exact hR ((h.o1.alloc o).kept hg (own_apart h.o1 h.o3 (by decide)))
  · exact hR ((h.o2.alloc o).kept hg (own_apart h.o2 h.o3 (by decide)))
  · rw [vO_snoc]; exact hR ho
  · exact hR ((h.o4.alloc o).kept hg (own_apart h.o4 h.o3 (by decide)))
  · obtain ⟨i1, i2, i3⟩ := h.inn j hj
    refine ⟨(rowIs_grown (i1.alloc o) hg i3).setOther (by show bI j ≠ R; omega) _, i2, ?_⟩
    rcases hat with hat | hat
    · rw [hat]; exact i3
    · rw [hat]
      intro e2
      have h1 := i1.lt
      injection e2 with e2
      omega

theorem Mk.appW {b : Nat} (h : Mk w X R B d bI n1 n2 n3 n4 v1 v2 v3 v4 wr) (hRB : R < B) (hw : w.heap.size ≤ R) (hin : wr.rowIs b 4 4 (fun q => .bool (d.wk n4 q))) (hbB : B ≤ b) (hb3 : v3.ownBlock ≠ some b) (hbm : ∀ j, j < n4 → bI j < b)
    (ho : w4.ownsRow B 23 1 v' (n4 + 1) (vW bI n4 ++ [.slice (some ⟨b, 0, none⟩) 4 4])) (hg : (wr.alloc o).grownBy w4 v4.ownBlock) :
    Mk w X R B d (fun j => if j = n4 then b else bI j) n1 n2 n3 (n4 + 1) v1 v2 v3 v' (w4.setCell ⟨R, 3, none⟩ v') := by
  have hrow : ∀ g, v4.ownBlock = some g → B ≤ g := fun g e => (h.o4.lt g e).1
  obtain ⟨b1, b2, b3⟩ := h.base hRB hw hg hrow
  have hR : ∀ {e s n : Nat} {v : Value} {xs : List Value}, w4.ownsRow B e s v n xs → (w4.setCell ⟨R, 3, none⟩ v').ownsRow B e s v n xs := fun hv => ownsRow_setCell_other hv (fun e => by have := (hv.lt R e).1; omega) _
  refine ⟨⟨b1.os, b1.tape, b1.output, by simpa using b1.size, fun j hj hne => (Below.heap_setCell w4 ⟨R, 3, none⟩ v' j (by show j ≠ R; omega)).trans (b1.block j hj hne)⟩, by have := b2.set 3 v'; simpa using this, ?_, ?_, ?_, ?_, h.ap, fun j hj => ?_, fun i j hij hj => ?_⟩
  · exact hR ((h.o1.alloc o).kept hg (own_apart h.o1 h.o4 (by decide)))
  · exact hR ((h.o2.alloc o).kept hg (own_apart h.o2 h.o4 (by decide)))
  · exact hR ((h.o3.alloc o).kept hg (own_apart h.o3 h.o4 (by decide)))
  · rw [vW_snoc, if_pos rfl, vW_congr (bI' := bI) (fun j hj => by rw [if_neg (by omega)])]; exact hR ho
  · by_cases e : j = n4
    · subst e
      rw [if_pos rfl]
      exact ⟨(rowIs_grown (hin.alloc o) hg (own_row_ne h.o4 hin (by decide))).setOther (by show b ≠ R; omega) _, hbB, hb3⟩
    · rw [if_neg e]
      obtain ⟨i1, i2, i3⟩ := h.inn j (by omega)
      exact ⟨(rowIs_grown (i1.alloc o) hg (own_row_ne h.o4 i1 (by decide))).setOther (by show bI j ≠ R; omega) _, i2, i3⟩
  · by_cases e : j = n4
    · subst e
      rw [if_pos rfl, if_neg (by omega)]
      exact hbm i hij
    · rw [if_neg e, if_neg (by omega)]
      exact h.mono i j hij (by omega)

end

theorem own_shape {w : World} {B e s n : Nat} {v : Value} {xs : List Value} (h : w.ownsRow B e s v n xs) : ∃ ao cap, v = .slice ao n cap := by
  rcases h.2 with ⟨rfl, rfl⟩ | ⟨g, cap, cur, rfl, _⟩
  · exact ⟨_, _, rfl⟩
  · exact ⟨_, _, rfl⟩

theorem near_of {w : World} {o : Obj} {v v' : Value} (h : v'.ownBlock = v.ownBlock ∨ v'.ownBlock = some (w.alloc o).heap.size) : Near v v' (w.heap.size + 1) := by
  unfold Near; simpa using h

theorem near_lies {v : Value} {g n cap H : Nat} (h : v.ownBlock = some g ∨ g = H) : Near v (.slice (some ⟨g, 0, none⟩) n cap) H := by
  rcases h with h | h
  · exact Or.inl h.symm
  · exact Or.inr (by rw [h]; rfl)

end Go.Proofs.YtachkoledebanabGreatDoor

namespace Go.Proofs.YtachkoledebanabGreatDoor
open Go.RowKit

def nxV (g : Sg) : Value := .int .i64 g.nx
def frV (g : Sg) : Value := .int .i64 g.fr
def opV (g : Sg) : Value := .bool g.op
def lampV (g : Sg) : List Value := (List.range 4).map fun a => .bool (g.wk a)
def wkV (bI cI : Nat → Nat) (n : Nat) : List Value := (List.range n).map fun j => .slice (some ⟨bI j, 0, none⟩) 4 (cI j)
theorem wkV_snoc (bI cI : Nat → Nat) (n : Nat) : wkV bI cI (n + 1) = wkV bI cI n ++ [.slice (some ⟨bI n, 0, none⟩) 4 (cI n)] := by simp [wkV, List.range_succ]
theorem wkV_congr {bI cI bI' cI' : Nat → Nat} {n : Nat} (h : ∀ j, j < n → bI j = bI' j ∧ cI j = cI' j) : wkV bI cI n = wkV bI' cI' n := List.map_congr_left fun j hj => by rw [(h j (List.mem_range.1 hj)).1, (h j (List.mem_range.1 hj)).2]

/-- four lists of signals' parts, in blocks from B on; the row itself in block R; below R nothing has turned -/
structure Gr (w : World) (R B : Nat) (g1 g2 g3 g4 : List Sg) (bI cI : Nat → Nat) (v1 v2 v3 v4 : Value) (wr : World) : Prop where
  bel : Below R w wr
  bk : Blk wr R #[v1, v2, v3, v4] 26
  o1 : wr.ownsRow B 3 1 v1 g1.length (g1.map nxV)
  o2 : wr.ownsRow B 3 1 v2 g2.length (g2.map frV)
  o3 : wr.ownsRow B 4 1 v3 g3.length (g3.map opV)
  o4 : wr.ownsRow B 23 1 v4 g4.length (wkV bI cI g4.length)
  ap : ∀ g, v1.ownBlock = some g → v2.ownBlock ≠ some g
  inn : ∀ j, j < g4.length → wr.ownsRow B 4 1 (.slice (some ⟨bI j, 0, none⟩) 4 (cI j)) 4 (lampV (g4.getD j nilSg)) ∧ v3.ownBlock ≠ some (bI j)

section
variable {w wr w4 : World} {R B : Nat} {g1 g2 g3 g4 : List Sg} {bI cI : Nat → Nat} {v1 v2 v3 v4 v' : Value} {o : Obj} {g : Sg}

theorem Gr.base (h : Gr w R B g1 g2 g3 g4 bI cI v1 v2 v3 v4 wr) (hRB : R < B) {row : Option Nat} (hg : (wr.alloc o).grownBy w4 row) (hrow : ∀ g, row = some g → B ≤ g) : Below R w w4 ∧ Blk w4 R #[v1, v2, v3, v4] 26 ∧ wr.heap.size + 1 ≤ w4.heap.size := by
  have hR := h.bk.lt
  have hs1 : wr.heap.size + 1 ≤ w4.heap.size := by have := hg.size; simpa using this
  refine ⟨(h.bel.alloc (by omega) o).grown hg (by simp; omega) (fun k e => by have := hrow k e; omega), ?_, hs1⟩
  exact (hg.block R (by simp; omega) (fun e => by have := hrow R e.symm; omega)).trans ((Below.heap_alloc wr o R hR).trans h.bk)

theorem Gr.appN (h : Gr w R B g1 g2 g3 g4 bI cI v1 v2 v3 v4 wr) (hRB : R < B) (ho : w4.ownsRow B 3 1 v' (g1.length + 1) (g1.map nxV ++ [nxV g])) (hg : (wr.alloc o).grownBy w4 v1.ownBlock) (hat : Near v1 v' (wr.heap.size + 1)) :
    Gr w R B (g1 ++ [g]) g2 g3 g4 bI cI v' v2 v3 v4 (w4.setCell ⟨R, 0, none⟩ v') := by
  have hrow : ∀ g, v1.ownBlock = some g → B ≤ g := fun g e => (h.o1.lt g e).1
  obtain ⟨b1, b2, b3⟩ := h.base hRB hg hrow
  have hR : ∀ {e s n : Nat} {v : Value} {xs : List Value}, w4.ownsRow B e s v n xs → (w4.setCell ⟨R, 0, none⟩ v').ownsRow B e s v n xs := fun hv => ownsRow_setCell_other hv (fun e => by have := (hv.lt R e).1; omega) _
  refine ⟨b1.setCell (p := ⟨R, 0, none⟩) (Nat.le_refl _) _, by have := b2.set 0 v'; simpa using this, ?_, ?_, ?_, ?_, fun g e => ?_, fun j hj => ?_⟩
  · rw [List.map_append, List.length_append]; exact hR ho
  · refine hR ((h.o2.alloc o).kept hg ?_)
    cases e : v2.ownBlock with
    | none => exact Or.inl rfl
    | some g => exact Or.inr fun e1 => h.ap g e1.symm e
  · exact hR ((h.o3.alloc o).kept hg (own_apart h.o3 h.o1 (by decide)))
  · exact hR ((h.o4.alloc o).kept hg (own_apart h.o4 h.o1 (by decide)))
  · rcases hat with hat | hat
    · exact h.ap g (hat.symm.trans e)
    · intro e2
      have h1 := (h.o2.lt g e2).2
      rw [hat] at e
      injection e with e
      omega
  · obtain ⟨i1, i2⟩ := h.inn j hj
    exact ⟨hR ((i1.alloc o).kept hg (own_apart i1 h.o1 (by decide))), i2⟩

theorem Gr.appF (h : Gr w R B g1 g2 g3 g4 bI cI v1 v2 v3 v4 wr) (hRB : R < B) (ho : w4.ownsRow B 3 1 v' (g2.length + 1) (g2.map frV ++ [frV g])) (hg : (wr.alloc o).grownBy w4 v2.ownBlock) (hat : Near v2 v' (wr.heap.size + 1)) :
    Gr w R B g1 (g2 ++ [g]) g3 g4 bI cI v1 v' v3 v4 (w4.setCell ⟨R, 1, none⟩ v') := by
  have hrow : ∀ g, v2.ownBlock = some g → B ≤ g := fun g e => (h.o2.lt g e).1
  obtain ⟨b1, b2, b3⟩ := h.base hRB hg hrow
  have hR : ∀ {e s n : Nat} {v : Value} {xs : List Value}, w4.ownsRow B e s v n xs → (w4.setCell ⟨R, 1, none⟩ v').ownsRow B e s v n xs := fun hv => ownsRow_setCell_other hv (fun e => by have := (hv.lt R e).1; omega) _
  refine ⟨b1.setCell (p := ⟨R, 1, none⟩) (Nat.le_refl _) _, by have := b2.set 1 v'; simpa using this, ?_, ?_, ?_, ?_, fun g e => ?_, fun j hj => ?_⟩
  · refine hR ((h.o1.alloc o).kept hg ?_)
    cases e : v1.ownBlock with
    | none => exact Or.inl rfl
    | some g => exact Or.inr fun e1 => h.ap g e e1.symm
  · rw [List.map_append, List.length_append]; exact hR ho
  · exact hR ((h.o3.alloc o).kept hg (own_apart h.o3 h.o2 (by decide)))
  · exact hR ((h.o4.alloc o).kept hg (own_apart h.o4 h.o2 (by decide)))
  · rcases hat with hat | hat
    · rw [hat]; exact h.ap g e
    · rw [hat]
      intro e2
      have h1 := (h.o1.lt g e).2
      injection e2 with e2
      omega
  · obtain ⟨i1, i2⟩ := h.inn j hj
    exact ⟨hR ((i1.alloc o).kept hg (own_apart i1 h.o2 (by decide))), i2⟩

theorem Gr.appO (h : Gr w R B g1 g2 g3 g4 bI cI v1 v2 v3 v4 wr) (hRB : R < B) (ho : w4.ownsRow B 4 1 v' (g3.length + 1) (g3.map opV ++ [opV g])) (hg : (wr.alloc o).grownBy w4 v3.ownBlock) (hat : Near v3 v' (wr.heap.size + 1)) :
    Gr w R B g1 g2 (g3 ++ [g]) g4 bI cI v1 v2 v' v4 (w4.setCell ⟨R, 2, none⟩ v') := by
  have hrow : ∀ g, v3.ownBlock = some g → B ≤ g := fun g e => (h.o3.lt g e).1
  obtain ⟨b1, b2, b3⟩ := h.base hRB hg hrow
  have hR : ∀ {e s n : Nat} {v : Value} {xs : List Value}, w4.ownsRow B e s v n xs → (w4.setCell ⟨R, 2, none⟩ v').ownsRow B e s v n xs := fun hv => ownsRow_setCell_other hv (fun e => by have := (hv.lt R e).1; omega) _
  refine ⟨b1.setCell (p := ⟨R, 2, none⟩) (Nat.le_refl _) _, by have := b2.set 2 v'; simpa using this, ?_, ?_, ?_, ?_, h.ap, fun j hj => ?_⟩
  · exact hR ((h.o1.alloc o).kept hg (own_apart h.o1 h.o3 (by decide)))
  · exact hR ((h.o2.alloc o).kept hg (own_apart h.o2 h.o3 (by decide)))
  · rw [List.map_append, List.length_append]; exact hR ho
  · exact hR ((h.o4.alloc o).kept hg (own_apart h.o4 h.o3 (by decide)))
  · obtain ⟨i1, i2⟩ := h.inn j hj
    refine ⟨hR ((i1.alloc o).kept hg (Or.inr fun e => i2 e.symm)), ?_⟩
    rcases hat with hat | hat
    · rw [hat]; exact i2
    · rw [hat]
      intro e2
      have h1 := (i1.lt (bI j) rfl).2
      injection e2 with e2
      omega

theorem Gr.appW {b c : Nat} (h : Gr w R B g1 g2 g3 g4 bI cI v1 v2 v3 v4 wr) (hRB : R < B) (hin : wr.ownsRow B 4 1 (.slice (some ⟨b, 0, none⟩) 4 c) 4 (lampV g)) (hb3 : v3.ownBlock ≠ some b)
    (ho : w4.ownsRow B 23 1 v' (g4.length + 1) (wkV bI cI g4.length ++ [.slice (some ⟨b, 0, none⟩) 4 c])) (hg : (wr.alloc o).grownBy w4 v4.ownBlock) :
    Gr w R B g1 g2 g3 (g4 ++ [g]) (fun j => if j = g4.length then b else bI j) (fun j => if j = g4.length then c else cI j) v1 v2 v3 v' (w4.setCell ⟨R, 3, none⟩ v') := by
  have hrow : ∀ g, v4.ownBlock = some g → B ≤ g := fun g e => (h.o4.lt g e).1
  obtain ⟨b1, b2, b3⟩ := h.base hRB hg hrow
  have hR : ∀ {e s n : Nat} {v : Value} {xs : List Value}, w4.ownsRow B e s v n xs → (w4.setCell ⟨R, 3, none⟩ v').ownsRow B e s v n xs := fun hv => ownsRow_setCell_other hv (fun e => by have := (hv.lt R e).1; omega) _
  refine ⟨b1.setCell (p := ⟨R, 3, none⟩) (Nat.le_refl _) _, by have := b2.set 3 v'; simpa using this, ?_, ?_, ?_, ?_, h.ap, fun j hj => ?_⟩
  · exact hR ((h.o1.alloc o).kept hg (own_apart h.o1 h.o4 (by decide)))
  · exact hR ((h.o2.alloc o).kept hg (own_apart h.o2 h.o4 (by decide)))
  · exact hR ((h.o3.alloc o).kept hg (own_apart h.o3 h.o4 (by decide)))
  · rw [List.length_append, List.length_singleton, wkV_snoc, if_pos rfl, if_pos rfl, wkV_congr (bI' := bI) (cI' := cI) (fun j hj => ⟨by rw [if_neg (by omega)], by rw [if_neg (by omega)]⟩)]; exact hR ho
  · by_cases e : j = g4.length
    · subst e
      rw [if_pos rfl, if_pos rfl]
      refine ⟨?_, hb3⟩
      have e2 : (g4 ++ [g]).getD g4.length nilSg = g := by simp
      rw [e2]
      exact hR ((hin.alloc o).kept hg (own_apart hin h.o4 (by decide)))
    · rw [if_neg e, if_neg e]
      rw [List.length_append, List.length_singleton] at hj
      obtain ⟨i1, i2⟩ := h.inn j (by omega)
      refine ⟨?_, i2⟩
      have e2 : (g4 ++ [g]).getD j nilSg = g4.getD j nilSg := by
        simp only [List.getD_eq_getElem?_getD]
        rw [List.getElem?_append_left (by omega)]
      rw [e2]
      exact hR ((i1.alloc o).kept hg (own_apart i1 h.o4 (by decide)))

/-- beside whatever makes new blocks alone -/
theorem Gr.keep {w' : World} (h : Gr w R B g1 g2 g3 g4 bI cI v1 v2 v3 v4 wr) (hb : Below wr.heap.size wr w') : Gr w R B g1 g2 g3 g4 bI cI v1 v2 v3 v4 w' := by
  have hR := h.bk.lt
  have hk : ∀ {e s n : Nat} {v : Value} {xs : List Value}, wr.ownsRow B e s v n xs → w'.ownsRow B e s v n xs := fun hv => by
    obtain ⟨q1, q2⟩ := hv
    refine ⟨q1, ?_⟩
    rcases q2 with q2 | ⟨gb, cap, cur, e1, e2, e3, e4⟩
    · exact Or.inl q2
    · exact Or.inr ⟨gb, cap, cur, e1, e2, (hb.block gb (Array.getElem?_eq_some_iff.1 e3).1).trans e3, e4⟩
  exact ⟨h.bel.trans (hb.mono (by omega)), h.bk.keep hb, hk h.o1, hk h.o2, hk h.o3, hk h.o4, h.ap, fun j hj => ⟨hk (h.inn j hj).1, (h.inn j hj).2⟩⟩

end

/-- at the end: it lies as a row -/
theorem rowAt_owns {wr : World} {B : Nat} {gs : List Sg} {bI cI : Nat → Nat} {s1 s2 s3 s4 : Option Addr} {k1 k2 k3 k4 : Nat} (o1 : wr.ownsRow B 3 1 (.slice s1 gs.length k1) gs.length (gs.map nxV)) (o2 : wr.ownsRow B 3 1 (.slice s2 gs.length k2) gs.length (gs.map frV))
    (o3 : wr.ownsRow B 4 1 (.slice s3 gs.length k3) gs.length (gs.map opV)) (o4 : wr.ownsRow B 23 1 (.slice s4 gs.length k4) gs.length (wkV bI cI gs.length)) (inn : ∀ j, j < gs.length → wr.ownsRow B 4 1 (.slice (some ⟨bI j, 0, none⟩) 4 (cI j)) 4 (lampV (gs.getD j nilSg))) :
    RowAt wr s1 s2 s3 s4 (fun j => some ⟨bI j, 0, none⟩) cI (rowsOf gs) := by
  refine ⟨(own_slat o1 (by simp)).congr fun k hk => ?_, (own_slat o2 (by simp)).congr fun k hk => ?_, (own_slat o3 (by simp)).congr fun k hk => ?_, (own_slat o4 (by simp [wkV])).congr fun k hk => ?_, fun i hi => (own_slat (inn i hi) (by simp [lampV])).congr fun k hk => ?_⟩
  · simp [rowsOf, nxV, hk]
  · simp [rowsOf, frV, hk]
  · simp [rowsOf, opV, hk]
  · simp [rowsOf, wkV, hk]
  · have hk' : k < 4 := hk
    simp [rowsOf, lampV, hk']
theorem Gr.at {w wr : World} {R B : Nat} {gs : List Sg} {bI cI : Nat → Nat} {s1 s2 s3 s4 : Option Addr} {k1 k2 k3 k4 : Nat} (h : Gr w R B gs gs gs gs bI cI (.slice s1 gs.length k1) (.slice s2 gs.length k2) (.slice s3 gs.length k3) (.slice s4 gs.length k4) wr) :
    RowAt wr s1 s2 s3 s4 (fun j => some ⟨bI j, 0, none⟩) cI (rowsOf gs) := rowAt_owns h.o1 h.o2 h.o3 h.o4 fun j hj => (h.inn j hj).1

/-- six cells laid -/
def laid6 (w : World) (B : Nat) (x0 x1 x2 x3 x4 x5 : Value) : World := (((((w.setCell ⟨B, 0, none⟩ x0).setCell ⟨B, 1, none⟩ x1).setCell ⟨B, 2, none⟩ x2).setCell ⟨B, 3, none⟩ x3).setCell ⟨B, 4, none⟩ x4).setCell ⟨B, 5, none⟩ x5
theorem laid6_below {w W : World} {B lo : Nat} (h : Below lo w W) (hl : lo ≤ B) (x0 x1 x2 x3 x4 x5 : Value) : Below lo w (laid6 W B x0 x1 x2 x3 x4 x5) := (((((h.setCell (p := ⟨B, 0, none⟩) hl _).setCell (p := ⟨B, 1, none⟩) hl _).setCell (p := ⟨B, 2, none⟩) hl _).setCell (p := ⟨B, 3, none⟩) hl _).setCell (p := ⟨B, 4, none⟩) hl _).setCell (p := ⟨B, 5, none⟩) hl _
theorem laid6_blk {w : World} {B t : Nat} {u0 u1 u2 u3 u4 u5 : Value} (h : Blk w B #[u0, u1, u2, u3, u4, u5] t) (x0 x1 x2 x3 x4 x5 : Value) : Blk (laid6 w B x0 x1 x2 x3 x4 x5) B #[x0, x1, x2, x3, x4, x5] t := by
  have h1 := (((((h.set 0 x0).set 1 x1).set 2 x2).set 3 x3).set 4 x4).set 5 x5
  unfold laid6
  simpa using h1
theorem laid6_owns {w : World} {T B e s n : Nat} {v : Value} {xs : List Value} (h : w.ownsRow B e s v n xs) (hT : T < B) (x0 x1 x2 x3 x4 x5 : Value) : (laid6 w T x0 x1 x2 x3 x4 x5).ownsRow B e s v n xs := by
  have hR : ∀ {W : World} {q : Nat} {x : Value}, W.ownsRow B e s v n xs → (W.setCell ⟨T, q, none⟩ x).ownsRow B e s v n xs := fun hv => ownsRow_setCell_other hv (fun e => by have := (hv.lt T e).1; omega) _
  exact hR (hR (hR (hR (hR (hR h)))))
theorem Gr.low {w wr : World} {R B T : Nat} {gs : List Sg} {bI cI : Nat → Nat} {s1 s2 s3 s4 : Option Addr} {k1 k2 k3 k4 : Nat} (h : Gr w R B gs gs gs gs bI cI (.slice s1 gs.length k1) (.slice s2 gs.length k2) (.slice s3 gs.length k3) (.slice s4 gs.length k4) wr) (hT : T < B) (x0 x1 x2 x3 x4 x5 : Value) :
    RowAt (laid6 wr T x0 x1 x2 x3 x4 x5) s1 s2 s3 s4 (fun j => some ⟨bI j, 0, none⟩) cI (rowsOf gs) := rowAt_owns (laid6_owns h.o1 hT _ _ _ _ _ _) (laid6_owns h.o2 hT _ _ _ _ _ _) (laid6_owns h.o3 hT _ _ _ _ _ _) (laid6_owns h.o4 hT _ _ _ _ _ _) fun j hj => laid6_owns (h.inn j hj).1 hT _ _ _ _ _ _

end Go.Proofs.YtachkoledebanabGreatDoor

namespace Go.Proofs.YtachkoledebanabGreatDoor
open Go.RowKit

def farW : List UInt8 := [102, 97, 114]
theorem nxW_cancel {n m : Int} {a b : List (List UInt8)} (h : nxW n ++ a = nxW m ++ b) : a = b := by
  rcases nxW_head n with ⟨t, e1, _, e3⟩ | ⟨t, e1, _, e3⟩ <;> rcases nxW_head m with ⟨t', f1, _, f3⟩ | ⟨t', f1, _, f3⟩ <;> rw [e1, f1, e3, f3] at h <;> simp at h
  · exact h
  · exact h.2
theorem line_form {l : List UInt8} {g : Sg} (h : IsLine l g) : g.Ok ∧ words l = opW g.op :: lampsW :: lampTxt g.wk 4 :: (nxW g.nx ++ [farW, dec g.fr.toNat]) := by
  obtain ⟨h1, h2⟩ := isLine_words.1 h
  exact ⟨h1, h2⟩
theorem no1 {l : List UInt8} (h1 : nw (words l) ≠ opW true) (h2 : nw (words l) ≠ opW false) : ∀ g, ¬ IsLine l g := fun g h => by
  obtain ⟨_, e⟩ := line_form h
  rw [e] at h1 h2
  cases ho : g.op
  · exact h2 (by rw [ho]; rfl)
  · exact h1 (by rw [ho]; rfl)
theorem no2 {l : List UInt8} (h1 : ∀ f r, nr (words l) ≠ lampsW :: lampTxt f 4 :: r) : ∀ g, ¬ IsLine l g := fun g h => by
  obtain ⟨_, e⟩ := line_form h
  exact h1 g.wk _ (by rw [e]; rfl)
theorem line_two {l : List UInt8} {g : Sg} (h : IsLine l g) {f : Nat → Bool} {ws2 : List (List UInt8)} (e2 : nr (words l) = lampsW :: lampTxt f 4 :: ws2) : g.Ok ∧ ws2 = nxW g.nx ++ [farW, dec g.fr.toNat] := by
  obtain ⟨h1, e⟩ := line_form h
  rw [e] at e2
  have e3 : lampsW :: lampTxt g.wk 4 :: (nxW g.nx ++ [farW, dec g.fr.toNat]) = lampsW :: lampTxt f 4 :: ws2 := e2
  simp at e3
  exact ⟨h1, e3.2.symm⟩
theorem no3 {l : List UInt8} {f : Nat → Bool} {ws2 : List (List UInt8)} (e2 : nr (words l) = lampsW :: lampTxt f 4 :: ws2) (h1 : ∀ m r, m < 100000000 → ws2 ≠ nxW m ++ r) : ∀ g, ¬ IsLine l g := fun g h => by
  obtain ⟨h2, e⟩ := line_two h e2
  exact h1 g.nx _ h2.n1 e
theorem line_three {l : List UInt8} {g : Sg} (h : IsLine l g) {f : Nat → Bool} {n : Int} {ws2 ws3 : List (List UInt8)} (e2 : nr (words l) = lampsW :: lampTxt f 4 :: ws2) (e3 : ws2 = nxW n ++ ws3) : g.Ok ∧ ws3 = [farW, dec g.fr.toNat] := by
  obtain ⟨h1, e⟩ := line_two h e2
  rw [e3] at e
  exact ⟨h1, nxW_cancel e⟩
theorem no4 {l : List UInt8} {f : Nat → Bool} {n : Int} {ws2 ws3 : List (List UInt8)} (e2 : nr (words l) = lampsW :: lampTxt f 4 :: ws2) (e3 : ws2 = nxW n ++ ws3) (h1 : ∀ (m : Nat) r, m < 100000000 → ws3 ≠ [102, 97, 114] :: dec m :: r) : ∀ g, ¬ IsLine l g := fun g h => by
  obtain ⟨h2, e⟩ := line_three h e2 e3
  exact h1 g.fr.toNat [] (by have := h2.f1; have := h2.f0; omega) e
theorem no5 {l : List UInt8} {f : Nat → Bool} {n k : Int} {ws2 ws3 ws4 : List (List UInt8)} (e2 : nr (words l) = lampsW :: lampTxt f 4 :: ws2) (e3 : ws2 = nxW n ++ ws3) (e4 : ws3 = [102, 97, 114] :: dec k.toNat :: ws4) (h1 : nw ws4 ≠ [10]) : ∀ g, ¬ IsLine l g := fun g h => by
  obtain ⟨h2, e⟩ := line_three h e2 e3
  rw [e4] at e
  have e' : ([102, 97, 114] : List UInt8) :: dec k.toNat :: ws4 = [102, 97, 114] :: dec g.fr.toNat :: [] := e
  simp at e'
  rw [e'.2] at h1
  exact h1 rfl
theorem yes {l : List UInt8} {f : Nat → Bool} {o : Bool} {n k : Int} {ws2 ws3 ws4 : List (List UInt8)} (e1 : nw (words l) = opW o) (e2 : nr (words l) = lampsW :: lampTxt f 4 :: ws2) (hf : ∀ a, 4 ≤ a → f a = false) (e3 : ws2 = nxW n ++ ws3) (hn : -1 ≤ n ∧ n < 100000000)
    (e4 : ws3 = [102, 97, 114] :: dec k.toNat :: ws4) (hk : 0 ≤ k ∧ k < 100000000) (h1 : nw ws4 = [10]) (hl : NoNl l) (hm : ∀ y ∈ ws4, y ∈ words l) : IsLine l ⟨o, f, n, k⟩ := by
  have e5 : ws4 = [] := by
    cases ws4 with
    | nil => rfl
    | cons x r =>
      have hx : x = [10] := h1
      exact absurd rfl (wordsA_nonl l [] hl (fun z hz => (by cases hz)) x (hm x (by simp)) 10 (by rw [hx]; simp))
  refine isLine_words.2 ⟨⟨hn.1, hn.2, hk.1, hk.2, hf⟩, ?_⟩
  rw [nw_eq e1 (by cases o <;> simp [opW]), e2, e3, e4, e5]
  rfl

end Go.Proofs.YtachkoledebanabGreatDoor
