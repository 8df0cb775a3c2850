/-
  A row that is made by appends: steps.
-/
import Derived.Test.YtachkoledebanaaMk
import Derived.Test.YtachkoledebanaaLam
namespace Go.Proofs.Ytachkoledebanaa
open Go.RowKit

/-- a row that was made: where its lists lie -/
structure Made (lo : Nat) (d : RD) (a1 a2 a3 a4 : Option Addr) (bI : Nat → Nat) (w : World) : Prop where
  nx : OwnT w lo w.heap.size a1 d.nN 3 (fun k => .int .i64 (d.nx k))
  fr : OwnT w lo w.heap.size a2 d.nF 3 (fun k => .int .i64 (d.fr k))
  op : OwnT w lo w.heap.size a3 d.nO 4 (fun k => .bool (d.op k))
  wk : OwnT w lo w.heap.size a4 d.nW 24 (fun k => .slice (some ⟨bI k, 0, none⟩) 4 4)
  lm : ∀ j, j < d.nW → w.rowIs (bI j) 4 4 (fun q => .bool (d.wk j q)) ∧ lo ≤ bI j ∧ ∀ b o, a3 = some ⟨b, o, none⟩ → b ≠ bI j
  mono : ∀ i j, i < j → j < d.nW → bI i < bI j

theorem OwnT.of_shape {w : World} {lo n t cap : Nat} {ao : Option Addr} {f : Nat → Value} (h : w.ownsRow lo t 1 (.slice ao n cap) n ((List.range n).map f)) : OwnT w lo w.heap.size ao n t f := by
  obtain ⟨ao', cap', e, ht⟩ := OwnT.ofOwns h
  injection e with e _ _
  rw [e]; exact ht
/-- a store below its lists -/
theorem Made.low {lo : Nat} {d : RD} {a1 a2 a3 a4 : Option Addr} {bI : Nat → Nat} {w : World} (h : Made lo d a1 a2 a3 a4 bI w) {p : Addr} (hp : p.block < lo) (v : Value) : Made lo d a1 a2 a3 a4 bI (w.setCell p v) := by
  have ho : ∀ {n t : Nat} {ao : Option Addr} {f : Nat → Value}, OwnT w lo w.heap.size ao n t f → OwnT (w.setCell p v) lo (w.setCell p v).heap.size ao n t f := fun hv => by
    have := hv.apart (p := p) (fun b _ _ hb _ _ => by omega) v
    simpa using this
  exact ⟨ho h.nx, ho h.fr, ho h.op, ho h.wk, fun j hj => by
    obtain ⟨i1, i2, i3⟩ := h.lm j hj
    exact ⟨i1.setOther (by omega) _, i2, i3⟩, h.mono⟩
theorem Made.wide {lo lo' : Nat} {d : RD} {a1 a2 a3 a4 : Option Addr} {bI : Nat → Nat} {w : World} (h : Made lo d a1 a2 a3 a4 bI w) (hl : lo' ≤ lo) : Made lo' d a1 a2 a3 a4 bI w :=
  ⟨h.nx.wide hl (Nat.le_refl _), h.fr.wide hl (Nat.le_refl _), h.op.wide hl (Nat.le_refl _), h.wk.wide hl (Nat.le_refl _), fun j hj => by
    obtain ⟨i1, i2, i3⟩ := h.lm j hj
    exact ⟨i1, by omega, i3⟩, h.mono⟩
theorem Made.keep {lo : Nat} {d : RD} {a1 a2 a3 a4 : Option Addr} {bI : Nat → Nat} {w w' : World} (h : Made lo d a1 a2 a3 a4 bI w) (hb : Below w.heap.size w w') : Made lo d a1 a2 a3 a4 bI w' :=
  ⟨(h.nx.keep hb (Nat.le_refl _)).wide (Nat.le_refl _) hb.size, (h.fr.keep hb (Nat.le_refl _)).wide (Nat.le_refl _) hb.size, (h.op.keep hb (Nat.le_refl _)).wide (Nat.le_refl _) hb.size, (h.wk.keep hb (Nat.le_refl _)).wide (Nat.le_refl _) hb.size, fun j hj => by
    obtain ⟨i1, i2, i3⟩ := h.lm j hj
    exact ⟨rowIs_below i1 hb i1.lt, i2, i3⟩, h.mono⟩
theorem Made.at {lo : Nat} {d : RD} {a1 a2 a3 a4 : Option Addr} {bI : Nat → Nat} {w : World} (hl : ∀ i, i < d.nW → d.L i = 4) (h : Made lo d a1 a2 a3 a4 bI w) : RowAt w a1 a2 a3 a4 (fun j => some ⟨bI j, 0, none⟩) (fun _ => 4) d :=
  ⟨h.nx.sl, h.fr.sl, h.op.sl, h.wk.sl.congr (fun j hj => by rw [hl j hj]), fun j hj => by rw [hl j hj]; exact .ofRow (h.lm j hj).1⟩

def RetRow (e : Ending) (lo : Nat) (d : RD) (w' : World) : Prop := ∃ a1 a2 a3 a4 c1 c2 c3 c4 bI, e = .returned (.agg #[.slice a1 d.nN c1, .slice a2 d.nF c2, .slice a3 d.nO c3, .slice a4 d.nW c4]) ∧ Made lo d a1 a2 a3 a4 bI w'

/-- what came before stays, behind an append and a store of the row's own -/
theorem bel_step {S R B : Nat} {wr w4 : World} {o : Obj} {row : Option Nat} {q : Nat} {v : Value} (hS : S ≤ R) (hSw : S ≤ wr.heap.size) (hSB : S ≤ B) (hg : (wr.alloc o).grownBy w4 row) (hrow : ∀ g, row = some g → B ≤ g) : Below S wr (w4.setCell ⟨R, q, none⟩ v) :=
  (((Below.refl S wr).alloc hSw o).grown hg (by simp; omega) (fun g e => Nat.le_trans hSB (hrow g e))).setCell hS v

/-- the cursor goes on beside the lists -/
theorem Mk.cur {w wr w' : World} {X R B : Nat} {d : RD} {bI : Nat → Nat} {n1 n2 n3 n4 : Nat} {v1 v2 v3 v4 : Value} (h : Mk w X R B d bI n1 n2 n3 n4 v1 v2 v3 v4 wr) (hXR : X < R) (hRB : R < B) (ho : Only X (X + 1) wr w') : Mk w X R B d bI n1 n2 n3 n4 v1 v2 v3 v4 w' := by
  have hg : wr.grownBy w' (some X) := ⟨ho.os, ho.tape, ho.output, ho.size, fun j hj hne => ho.block j hj (by have : j ≠ X := fun e => hne (by rw [e]); omega)⟩
  have hk : ∀ {e s n : Nat} {v : Value} {xs : List Value}, wr.ownsRow B e s v n xs → w'.ownsRow B e s v n xs := fun hv => hv.kept hg (Or.inr fun e => by have := (hv.lt X e).1; omega)
  exact ⟨h.on.trans ho, ho.blk h.bk (Or.inr (by omega)), hk h.o1, hk h.o2, hk h.o3, hk h.o4, h.ap, fun j hj => by
    obtain ⟨i1, i2, i3⟩ := h.inn j hj
    exact ⟨ho.rowIs i1 (Or.inr (by omega)), i2, i3⟩, h.mono⟩
theorem Mk.drew {w wr : World} {X R B : Nat} {d : RD} {bI : Nat → Nat} {n1 n2 n3 n4 : Nat} {v1 v2 v3 v4 : Value} (h : Mk w X R B d bI n1 n2 n3 n4 v1 v2 v3 v4 wr) : Mk w X R B d bI n1 n2 n3 n4 v1 v2 v3 v4 wr.drew :=
  ⟨h.on.trans (.ofBelow (Below.refl _ _).drew), h.bk, h.o1.drew, h.o2.drew, h.o3.drew, h.o4.drew, h.ap, fun j hj => by
    obtain ⟨i1, i2, i3⟩ := h.inn j hj
    exact ⟨i1.drew, i2, i3⟩, h.mono⟩

/-- at the end: the row is made -/
theorem Mk.made {w wr : World} {X R B n : Nat} {d : RD} {bI : Nat → Nat} {s1 s2 s3 s4 : Option Addr} {k1 k2 k3 k4 : Nat} (h : Mk w X R B d bI n n n n (.slice s1 n k1) (.slice s2 n k2) (.slice s3 n k3) (.slice s4 n k4) wr) (h1 : d.nN = n) (h2 : d.nF = n) (h3 : d.nO = n) (h4 : d.nW = n) : Made B d s1 s2 s3 s4 bI wr := by
  refine ⟨by rw [h1]; exact OwnT.of_shape h.o1, by rw [h2]; exact OwnT.of_shape h.o2, by rw [h3]; exact OwnT.of_shape h.o3, by rw [h4]; exact OwnT.of_shape h.o4, fun j hj => ?_, fun i j hij hj => h.mono i j hij (by omega)⟩
  obtain ⟨i1, i2, i3⟩ := h.inn j (by omega)
  refine ⟨i1, i2, fun b o e eb => i3 ?_⟩
  rw [e, ← eb]
  rcases h.o3.2 with ⟨hv, _⟩ | ⟨g, cap, cur, hv, _⟩
  · rw [e] at hv; cases hv
  · rw [e] at hv
    injection hv with hv _ _
    injection hv with hv
    injection hv with hv hv'
    subst hv'
    rfl

/-- .. and a list of lamps of its own, the youngest block, not in the row yet -/
structure MkB (w : World) (X R B : Nat) (d : RD) (bI : Nat → Nat) (n1 n2 n3 n4 : Nat) (v1 v2 v3 v4 : Value) (b : Nat) (f : Nat → Bool) (wr : World) : Prop where
  mm : Mk w X R B d bI n1 n2 n3 n4 v1 v2 v3 v4 wr
  row : wr.rowIs b 4 4 (fun q => .bool (f q))
  lo : B ≤ b
  f1 : ∀ g, v1.ownBlock = some g → g < b
  f2 : ∀ g, v2.ownBlock = some g → g < b
  f3 : ∀ g, v3.ownBlock = some g → g < b
  f4 : ∀ g, v4.ownBlock = some g → g < b
  fi : ∀ j, j < n4 → bI j < b

section
variable {w wr w' : World} {X R B : Nat} {d : RD} {bI : Nat → Nat} {n1 n2 n3 n4 : Nat} {v1 v2 v3 v4 : Value} {b : Nat} {f : Nat → Bool}

theorem Mk.alloc (h : Mk w X R B d bI n1 n2 n3 n4 v1 v2 v3 v4 wr) (o : Obj) : Mk w X R B d bI n1 n2 n3 n4 v1 v2 v3 v4 (wr.alloc o) :=
  ⟨h.on.trans (.ofBelow ((Below.refl _ _).alloc (Nat.le_refl _) _)), h.bk.alloc o, h.o1.alloc o, h.o2.alloc o, h.o3.alloc o, h.o4.alloc o, h.ap, fun j hj => by
    obtain ⟨i1, i2, i3⟩ := h.inn j hj
    exact ⟨i1.alloc o, i2, i3⟩, h.mono⟩

theorem MkB.new (h : Mk w X R B d bI n1 n2 n3 n4 v1 v2 v3 v4 wr) (hRB : B ≤ wr.heap.size) : MkB w X R B d bI n1 n2 n3 n4 v1 v2 v3 v4 wr.heap.size (fun _ => true) (wr.alloc (.cells #[.bool true, .bool true, .bool true, .bool true] 4)) :=
  ⟨h.alloc _, World.rowIs_alloc wr #[.bool true, .bool true, .bool true, .bool true] 4 (fun _ => .bool true) (fun i hi => by
      have hi' : i < 4 := hi
      match i, hi' with
      | 0, _ => rfl
      | 1, _ => rfl
      | 2, _ => rfl
      | 3, _ => rfl), hRB, fun g e => (h.o1.lt g e).2, fun g e => (h.o2.lt g e).2, fun g e => (h.o3.lt g e).2, fun g e => (h.o4.lt g e).2, fun j hj => (h.inn j hj).1.lt⟩

theorem MkB.cur (h : MkB w X R B d bI n1 n2 n3 n4 v1 v2 v3 v4 b f wr) (hXR : X < R) (hRB : R < B) (ho : Only X (X + 1) wr w') : MkB w X R B d bI n1 n2 n3 n4 v1 v2 v3 v4 b f w' :=
  ⟨h.mm.cur hXR hRB ho, ho.rowIs h.row (Or.inr (by have := h.lo; omega)), h.lo, h.f1, h.f2, h.f3, h.f4, h.fi⟩

theorem MkB.store (h : MkB w X R B d bI n1 n2 n3 n4 v1 v2 v3 v4 b f wr) (hw : w.heap.size ≤ R) (hRB : R < B) (j : Nat) : MkB w X R B d bI n1 n2 n3 n4 v1 v2 v3 v4 b (less f j) (wr.setCell ⟨b, j, none⟩ (.bool false)) := by
  have hlo := h.lo
  have ho : ∀ {e s n : Nat} {v : Value} {xs : List Value}, wr.ownsRow B e s v n xs → (∀ g, v.ownBlock = some g → g < b) → (wr.setCell ⟨b, j, none⟩ (.bool false)).ownsRow B e s v n xs := fun hv hf => ownsRow_setCell_other hv (fun e => by have := hf b e; omega) _
  refine ⟨⟨⟨h.mm.on.os, h.mm.on.tape, h.mm.on.output, by simpa using h.mm.on.size, fun q hq hne => (Below.heap_setCell wr ⟨b, j, none⟩ _ q (by show q ≠ b; omega)).trans (h.mm.on.block q hq hne)⟩, h.mm.bk.other (a := ⟨b, j, none⟩) (by show R ≠ b; omega) _, ho h.mm.o1 h.f1, ho h.mm.o2 h.f2, ho h.mm.o3 h.f3, ho h.mm.o4 h.f4, h.mm.ap, fun q hq => ?_, h.mm.mono⟩, ?_, hlo, h.f1, h.f2, h.f3, h.f4, h.fi⟩
  · obtain ⟨i1, i2, i3⟩ := h.mm.inn q hq
    exact ⟨i1.setOther (by show bI q ≠ b; have := h.fi q hq; omega) _, i2, i3⟩
  · refine (h.row.set j (.bool false)).congr fun q _ => ?_
    unfold less
    by_cases e : q = j <;> simp [e]

end

end Go.Proofs.Ytachkoledebanaa
