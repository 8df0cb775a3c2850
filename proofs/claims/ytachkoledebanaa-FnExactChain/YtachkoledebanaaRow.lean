/-
  A row as data; where it lies in memory; toRow: a copy of it in new memory.
-/
import Derived.Test.YtachkoledebanaaTo
namespace Go.Proofs.Ytachkoledebanaa
open Go.RowKit

/-- what a row reads as, by the index -/
structure RD where
  nN : Nat
  nx : Nat → Int
  nF : Nat
  fr : Nat → Int
  nO : Nat
  op : Nat → Bool
  nW : Nat
  L : Nat → Nat
  wk : Nat → Nat → Bool

/-- the row d lies behind the four slices' addresses -/
structure RowAt (w : World) (a1 a2 a3 a4 : Option Addr) (A : Nat → Option Addr) (C : Nat → Nat) (d : RD) : Prop where
  nx : SlAt w a1 d.nN (fun k => .int .i64 (d.nx k))
  fr : SlAt w a2 d.nF (fun k => .int .i64 (d.fr k))
  op : SlAt w a3 d.nO (fun k => .bool (d.op k))
  wk : SlAt w a4 d.nW (fun k => .slice (A k) (d.L k) (C k))
  lm : ∀ i, i < d.nW → SlAt w (A i) (d.L i) (fun j => .bool (d.wk i j))

theorem RowAt.keep {w w' : World} {a1 a2 a3 a4 : Option Addr} {A : Nat → Option Addr} {C : Nat → Nat} {d : RD} (h : RowAt w a1 a2 a3 a4 A C d) (hb : Below w.heap.size w w') : RowAt w' a1 a2 a3 a4 A C d :=
  ⟨h.nx.keep hb, h.fr.keep hb, h.op.keep hb, h.wk.keep hb, fun i hi => (h.lm i hi).keep hb⟩

theorem RowAt.drew {w : World} {a1 a2 a3 a4 : Option Addr} {A : Nat → Option Addr} {C : Nat → Nat} {d : RD} (h : RowAt w a1 a2 a3 a4 A C d) : RowAt w.drew a1 a2 a3 a4 A C d := h.keep (Below.refl _ _).drew

/-- no list of the row is longer than 2^20 -/
structure Small (d : RD) : Prop where
  nN : d.nN ≤ 1048576
  nF : d.nF ≤ 1048576
  nO : d.nO ≤ 1048576
  nW : d.nW ≤ 1048576
  L : ∀ i, i < d.nW → d.L i ≤ 1048576

/-- the row d lies in blocks of its own: from b on -/
structure RowOwn (w : World) (b : Nat) (d : RD) : Prop where
  nx : w.rowIs b 3 d.nN (fun k => .int .i64 (d.nx k))
  fr : w.rowIs (b + 1) 3 d.nF (fun k => .int .i64 (d.fr k))
  op : w.rowIs (b + 2) 4 d.nO (fun k => .bool (d.op k))
  wk : w.rowIs (b + 3) 24 d.nW (fun k => .slice (some ⟨b + 4 + k, 0, none⟩) (d.L k) (d.L k))
  lm : ∀ i, i < d.nW → w.rowIs (b + 4 + i) 4 (d.L i) (fun j => .bool (d.wk i j))

theorem RowOwn.at {w : World} {b : Nat} {d : RD} (h : RowOwn w b d) : RowAt w (some ⟨b, 0, none⟩) (some ⟨b + 1, 0, none⟩) (some ⟨b + 2, 0, none⟩) (some ⟨b + 3, 0, none⟩) (fun k => some ⟨b + 4 + k, 0, none⟩) d.L d :=
  ⟨.ofRow h.nx, .ofRow h.fr, .ofRow h.op, .ofRow h.wk, fun i hi => .ofRow (h.lm i hi)⟩

theorem RowOwn.keep {w w' : World} {b B : Nat} {d : RD} (h : RowOwn w b d) (hb : Below B w w') (hB : b + 4 + d.nW ≤ B) : RowOwn w' b d :=
  ⟨rowIs_below h.nx hb (by omega), rowIs_below h.fr hb (by omega), rowIs_below h.op hb (by omega), rowIs_below h.wk hb (by omega), fun i hi => rowIs_below (h.lm i hi) hb (by omega)⟩

theorem RowOwn.other {w : World} {b : Nat} {d : RD} (h : RowOwn w b d) {a : Addr} (ha : a.block < b) (v : Value) : RowOwn (w.setCell a v) b d :=
  ⟨h.nx.setOther (by omega) v, h.fr.setOther (by omega) v, h.op.setOther (by omega) v, h.wk.setOther (by omega) v, fun i hi => (h.lm i hi).setOther (by omega) v⟩

/-- a row as a value that lies in blocks of its own -/
def ownRow (b : Nat) (d : RD) : Value := .agg #[.slice (some ⟨b, 0, none⟩) d.nN d.nN, .slice (some ⟨b + 1, 0, none⟩) d.nF d.nF, .slice (some ⟨b + 2, 0, none⟩) d.nO d.nO, .slice (some ⟨b + 3, 0, none⟩) d.nW d.nW]

set_option maxHeartbeats 1000000 in
theorem toRow_any (a1 a2 a3 a4 : Option Addr) (c1 c2 c3 c4 : Nat) (A : Nat → Option Addr) (C : Nat → Nat) (d : RD) (w : World) (hs : Small d) (h : RowAt w a1 a2 a3 a4 A C d) :
    Calls Try.prog 37 #[.agg #[.slice a1 d.nN c1, .slice a2 d.nF c2, .slice a3 d.nO c3, .slice a4 d.nW c4]] w fun e w' =>
      e = .returned (ownRow (w.heap.size + 3) d) ∧ RowOwn w' (w.heap.size + 3) d ∧ Below w.heap.size w w' ∧ w'.heap.size = w.heap.size + 3 + 4 + d.nW := by
  go_enter Try.func37, Try.ntmps37
  go_wp2_with fail
  generalize hW : (((w.alloc (.cells #[Value.slice a1 d.nN c1, Value.slice a2 d.nF c2, Value.slice a3 d.nO c3, Value.slice a4 d.nW c4] 47)).alloc (.cells #[Value.slice none 0 0, Value.slice none 0 0, Value.slice none 0 0, Value.slice none 0 0] 27)).alloc (.cells #[Value.slice none 0 0, Value.slice none 0 0, Value.slice none 0 0, Value.slice none 0 0] 27)) = W
  have hWb : Below w.heap.size w W := by subst hW; exact (((Below.refl _ _).alloc (Nat.le_refl _) _).alloc (by simp) _).alloc (by simp; omega) _
  have hWs : W.heap.size = w.heap.size + 3 := by subst hW; simp
  have p0 : Blk W w.heap.size #[Value.slice a1 d.nN c1, Value.slice a2 d.nF c2, Value.slice a3 d.nO c3, Value.slice a4 d.nW c4] 47 := by subst hW; exact ((Blk.new _ _ _).alloc _).alloc _
  have r0 : Blk W (w.heap.size + 1) #[Value.slice none 0 0, Value.slice none 0 0, Value.slice none 0 0, Value.slice none 0 0] 27 := by subst hW; have := Blk.new (w.alloc (.cells #[Value.slice a1 d.nN c1, Value.slice a2 d.nF c2, Value.slice a3 d.nO c3, Value.slice a4 d.nW c4] 47)) #[Value.slice none 0 0, Value.slice none 0 0, Value.slice none 0 0, Value.slice none 0 0] 27; simpa using this.alloc _
  have o0 : Blk W (w.heap.size + 1 + 1) #[Value.slice none 0 0, Value.slice none 0 0, Value.slice none 0 0, Value.slice none 0 0] 27 := by subst hW; have := Blk.new ((w.alloc (.cells #[Value.slice a1 d.nN c1, Value.slice a2 d.nF c2, Value.slice a3 d.nO c3, Value.slice a4 d.nW c4] 47)).alloc (.cells #[Value.slice none 0 0, Value.slice none 0 0, Value.slice none 0 0, Value.slice none 0 0] 27)) #[Value.slice none 0 0, Value.slice none 0 0, Value.slice none 0 0, Value.slice none 0 0] 27; simpa using this
  clear hW
  have h0 := h.keep hWb
  refine (toIntS_any a1 d.nN c1 d.nx _ hs.nN h0.nx).mono ?_
  rintro e w1 ⟨rfl, hr1, hb1, hs1⟩
  rw [hWs] at hr1 hb1 hs1 ⊢
  have p1 := p0.below hb1 (by omega)
  have r1 := r0.below hb1 (by omega)
  have o1 := o0.below hb1 (by omega)
  have cp := p1.cell 1
  have co := o1.cell 0
  have fo := o1.free 0
  simp at cp co
  go_wp2_with fail
  generalize hW1 : w1.setCell ⟨w.heap.size + 1 + 1, 0, none⟩ (.slice (some ⟨w.heap.size + 3, 0, none⟩) d.nN d.nN) = W1
  have bW1 : Below w.heap.size w W1 := by subst hW1; exact (hWb.trans (hb1.mono (by omega))).setCell (by show w.heap.size ≤ w.heap.size + 1 + 1; omega) _
  have hWs1 : W1.heap.size = w.heap.size + 3 + 1 := by subst hW1; simpa using hs1
  have R1_1 := (hr1).setOther (a := ⟨w.heap.size + 1 + 1, 0, none⟩) (by show w.heap.size + 3 ≠ w.heap.size + 1 + 1; omega) (.slice (some ⟨w.heap.size + 3, 0, none⟩) d.nN d.nN)
  rw [hW1] at R1_1
  have p1 := p1.other (a := ⟨w.heap.size + 1 + 1, 0, none⟩) (by show w.heap.size ≠ w.heap.size + 1 + 1; omega) (.slice (some ⟨w.heap.size + 3, 0, none⟩) d.nN d.nN)
  rw [hW1] at p1
  have r1 := r1.other (a := ⟨w.heap.size + 1 + 1, 0, none⟩) (by show w.heap.size + 1 ≠ w.heap.size + 1 + 1; omega) (.slice (some ⟨w.heap.size + 3, 0, none⟩) d.nN d.nN)
  rw [hW1] at r1
  have o1 := o1.set 0 (.slice (some ⟨w.heap.size + 3, 0, none⟩) d.nN d.nN)
  rw [hW1] at o1
  have h1 := h.keep bW1
  clear hW1 cp co fo
  refine (toIntS_any a2 d.nF c2 d.fr _ hs.nF h1.fr).mono ?_
  rintro e w2 ⟨rfl, hr2, hb2, hs2⟩
  rw [hWs1] at hr2 hb2 hs2 ⊢
  have p2 := p1.below hb2 (by omega)
  have r2 := r1.below hb2 (by omega)
  have o2 := o1.below hb2 (by omega)
  have cp := p2.cell 2
  have co := o2.cell 1
  have fo := o2.free 1
  simp at cp co
  go_wp2_with fail
  generalize hW2 : w2.setCell ⟨w.heap.size + 1 + 1, 1, none⟩ (.slice (some ⟨w.heap.size + 3 + 1, 0, none⟩) d.nF d.nF) = W2
  have bW2 : Below w.heap.size w W2 := by subst hW2; exact (bW1.trans (hb2.mono (by omega))).setCell (by show w.heap.size ≤ w.heap.size + 1 + 1; omega) _
  have hWs2 : W2.heap.size = w.heap.size + 3 + 2 := by subst hW2; simpa using hs2
  have R2_1 := (rowIs_below R1_1 hb2 (by omega)).setOther (a := ⟨w.heap.size + 1 + 1, 1, none⟩) (by show w.heap.size + 3 ≠ w.heap.size + 1 + 1; omega) (.slice (some ⟨w.heap.size + 3 + 1, 0, none⟩) d.nF d.nF)
  rw [hW2] at R2_1
  have R2_2 := (hr2).setOther (a := ⟨w.heap.size + 1 + 1, 1, none⟩) (by show w.heap.size + 3 + 1 ≠ w.heap.size + 1 + 1; omega) (.slice (some ⟨w.heap.size + 3 + 1, 0, none⟩) d.nF d.nF)
  rw [hW2] at R2_2
  have p2 := p2.other (a := ⟨w.heap.size + 1 + 1, 1, none⟩) (by show w.heap.size ≠ w.heap.size + 1 + 1; omega) (.slice (some ⟨w.heap.size + 3 + 1, 0, none⟩) d.nF d.nF)
  rw [hW2] at p2
  have r2 := r2.other (a := ⟨w.heap.size + 1 + 1, 1, none⟩) (by show w.heap.size + 1 ≠ w.heap.size + 1 + 1; omega) (.slice (some ⟨w.heap.size + 3 + 1, 0, none⟩) d.nF d.nF)
  rw [hW2] at r2
  have o2 := o2.set 1 (.slice (some ⟨w.heap.size + 3 + 1, 0, none⟩) d.nF d.nF)
  rw [hW2] at o2
  have h2 := h.keep bW2
  clear hW2 cp co fo
  refine (toBoolS_any a3 d.nO c3 d.op _ hs.nO h2.op).mono ?_
  rintro e w3 ⟨rfl, hr3, hb3, hs3⟩
  rw [hWs2] at hr3 hb3 hs3 ⊢
  have p3 := p2.below hb3 (by omega)
  have r3 := r2.below hb3 (by omega)
  have o3 := o2.below hb3 (by omega)
  have cp := p3.cell 3
  have co := o3.cell 2
  have fo := o3.free 2
  simp at cp co
  go_wp2_with fail
  generalize hW3 : w3.setCell ⟨w.heap.size + 1 + 1, 2, none⟩ (.slice (some ⟨w.heap.size + 3 + 2, 0, none⟩) d.nO d.nO) = W3
  have bW3 : Below w.heap.size w W3 := by subst hW3; exact (bW2.trans (hb3.mono (by omega))).setCell (by show w.heap.size ≤ w.heap.size + 1 + 1; omega) _
  have hWs3 : W3.heap.size = w.heap.size + 3 + 3 := by subst hW3; simpa using hs3
  have R3_1 := (rowIs_below R2_1 hb3 (by omega)).setOther (a := ⟨w.heap.size + 1 + 1, 2, none⟩) (by show w.heap.size + 3 ≠ w.heap.size + 1 + 1; omega) (.slice (some ⟨w.heap.size + 3 + 2, 0, none⟩) d.nO d.nO)
  rw [hW3] at R3_1
  have R3_2 := (rowIs_below R2_2 hb3 (by omega)).setOther (a := ⟨w.heap.size + 1 + 1, 2, none⟩) (by show w.heap.size + 3 + 1 ≠ w.heap.size + 1 + 1; omega) (.slice (some ⟨w.heap.size + 3 + 2, 0, none⟩) d.nO d.nO)
  rw [hW3] at R3_2
  have R3_3 := (hr3).setOther (a := ⟨w.heap.size + 1 + 1, 2, none⟩) (by show w.heap.size + 3 + 2 ≠ w.heap.size + 1 + 1; omega) (.slice (some ⟨w.heap.size + 3 + 2, 0, none⟩) d.nO d.nO)
  rw [hW3] at R3_3
  have p3 := p3.other (a := ⟨w.heap.size + 1 + 1, 2, none⟩) (by show w.heap.size ≠ w.heap.size + 1 + 1; omega) (.slice (some ⟨w.heap.size + 3 + 2, 0, none⟩) d.nO d.nO)
  rw [hW3] at p3
  have r3 := r3.other (a := ⟨w.heap.size + 1 + 1, 2, none⟩) (by show w.heap.size + 1 ≠ w.heap.size + 1 + 1; omega) (.slice (some ⟨w.heap.size + 3 + 2, 0, none⟩) d.nO d.nO)
  rw [hW3] at r3
  have o3 := o3.set 2 (.slice (some ⟨w.heap.size + 3 + 2, 0, none⟩) d.nO d.nO)
  rw [hW3] at o3
  have h3 := h.keep bW3
  clear hW3 cp co fo
  refine (toBoolSS_any a4 d.nW c4 A d.L C d.wk _ hs.nW hs.L h3.wk h3.lm).mono ?_
  rintro e w4 ⟨rfl, hr4, hf4, hb4, hs4⟩
  rw [hWs3] at hr4 hb4 hs4 hf4 ⊢
  have p4 := p3.below hb4 (by omega)
  have r4 := r3.below hb4 (by omega)
  have o4 := o3.below hb4 (by omega)
  have q0 := o4.cell 0
  have q1 := o4.cell 1
  have q2 := o4.cell 2
  have s0 := r4.cell 0
  have s1 := r4.cell 1
  have s2 := r4.cell 2
  have s3 := r4.cell 3
  have t0 := r4.free 0
  have t1 := r4.free 1
  have t2 := r4.free 2
  have t3 := r4.free 3
  have co := o4.cell 3
  have fo := o4.free 3
  simp at co q0 q1 q2 s0 s1 s2 s3
  go_wp2
  have own : RowOwn w4 (w.heap.size + 3) d :=
    ⟨rowIs_below R3_1 hb4 (by omega), rowIs_below R3_2 hb4 (by omega), rowIs_below R3_3 hb4 (by omega), hr4.congr (fun i _ => by rw [show w.heap.size + 3 + 3 + 1 + i = w.heap.size + 3 + 4 + i by omega]),
      fun i hi => by rw [show w.heap.size + 3 + 4 + i = w.heap.size + 3 + 3 + 1 + i by omega]; exact hf4 i hi⟩
  have bel : Below w.heap.size w w4 := bW3.trans (hb4.mono (by omega))
  have rF := ((((r4.other (a := ⟨w.heap.size + 1 + 1, 3, none⟩) (by show w.heap.size + 1 ≠ w.heap.size + 1 + 1; omega) (.slice (some ⟨w.heap.size + 3 + 3, 0, none⟩) d.nW d.nW)).set 0 (.slice (some ⟨w.heap.size + 3, 0, none⟩) d.nN d.nN)).set 1 (.slice (some ⟨w.heap.size + 3 + 1, 0, none⟩) d.nF d.nF)).set 2 (.slice (some ⟨w.heap.size + 3 + 2, 0, none⟩) d.nO d.nO)).set 3 (.slice (some ⟨w.heap.size + 3 + 3, 0, none⟩) d.nW d.nW)
  have oF : RowOwn (((((w4.setCell ⟨w.heap.size + 1 + 1, 3, none⟩ (.slice (some ⟨w.heap.size + 3 + 3, 0, none⟩) d.nW d.nW)).setCell ⟨w.heap.size + 1, 0, none⟩ (.slice (some ⟨w.heap.size + 3, 0, none⟩) d.nN d.nN)).setCell ⟨w.heap.size + 1, 1, none⟩ (.slice (some ⟨w.heap.size + 3 + 1, 0, none⟩) d.nF d.nF)).setCell ⟨w.heap.size + 1, 2, none⟩ (.slice (some ⟨w.heap.size + 3 + 2, 0, none⟩) d.nO d.nO)).setCell ⟨w.heap.size + 1, 3, none⟩ (.slice (some ⟨w.heap.size + 3 + 3, 0, none⟩) d.nW d.nW)) (w.heap.size + 3) d := ((((own.other (by show w.heap.size + 1 + 1 < _; omega) _).other (by show w.heap.size + 1 < _; omega) _).other (by show w.heap.size + 1 < _; omega) _).other (by show w.heap.size + 1 < _; omega) _).other (by show w.heap.size + 1 < _; omega) _
  have bF : Below w.heap.size w (((((w4.setCell ⟨w.heap.size + 1 + 1, 3, none⟩ (.slice (some ⟨w.heap.size + 3 + 3, 0, none⟩) d.nW d.nW)).setCell ⟨w.heap.size + 1, 0, none⟩ (.slice (some ⟨w.heap.size + 3, 0, none⟩) d.nN d.nN)).setCell ⟨w.heap.size + 1, 1, none⟩ (.slice (some ⟨w.heap.size + 3 + 1, 0, none⟩) d.nF d.nF)).setCell ⟨w.heap.size + 1, 2, none⟩ (.slice (some ⟨w.heap.size + 3 + 2, 0, none⟩) d.nO d.nO)).setCell ⟨w.heap.size + 1, 3, none⟩ (.slice (some ⟨w.heap.size + 3 + 3, 0, none⟩) d.nW d.nW)) := ((((bel.setCell (by show w.heap.size ≤ w.heap.size + 1 + 1; omega) _).setCell (by show w.heap.size ≤ w.heap.size + 1; omega) _).setCell (by show w.heap.size ≤ w.heap.size + 1; omega) _).setCell (by show w.heap.size ≤ w.heap.size + 1; omega) _).setCell (by show w.heap.size ≤ w.heap.size + 1; omega) _
  have sF : (((((w4.setCell ⟨w.heap.size + 1 + 1, 3, none⟩ (.slice (some ⟨w.heap.size + 3 + 3, 0, none⟩) d.nW d.nW)).setCell ⟨w.heap.size + 1, 0, none⟩ (.slice (some ⟨w.heap.size + 3, 0, none⟩) d.nN d.nN)).setCell ⟨w.heap.size + 1, 1, none⟩ (.slice (some ⟨w.heap.size + 3 + 1, 0, none⟩) d.nF d.nF)).setCell ⟨w.heap.size + 1, 2, none⟩ (.slice (some ⟨w.heap.size + 3 + 2, 0, none⟩) d.nO d.nO)).setCell ⟨w.heap.size + 1, 3, none⟩ (.slice (some ⟨w.heap.size + 3 + 3, 0, none⟩) d.nW d.nW)).heap.size = w.heap.size + 3 + 4 + d.nW := by simp; omega
  generalize (((((w4.setCell ⟨w.heap.size + 1 + 1, 3, none⟩ (.slice (some ⟨w.heap.size + 3 + 3, 0, none⟩) d.nW d.nW)).setCell ⟨w.heap.size + 1, 0, none⟩ (.slice (some ⟨w.heap.size + 3, 0, none⟩) d.nN d.nN)).setCell ⟨w.heap.size + 1, 1, none⟩ (.slice (some ⟨w.heap.size + 3 + 1, 0, none⟩) d.nF d.nF)).setCell ⟨w.heap.size + 1, 2, none⟩ (.slice (some ⟨w.heap.size + 3 + 2, 0, none⟩) d.nO d.nO)).setCell ⟨w.heap.size + 1, 3, none⟩ (.slice (some ⟨w.heap.size + 3 + 3, 0, none⟩) d.nW d.nW)) = Wf at rF oF bF sF ⊢
  have f0 := rF.cell 0
  have f1 := rF.cell 1
  have f2 := rF.cell 2
  have f3 := rF.cell 3
  simp at f0 f1 f2 f3
  exact bodyPost_ret (v := ownRow (w.heap.size + 3) d) (by simp [results, Try.results37, go_sem, ownRow, f0, f1, f2, f3]) rfl ⟨rfl, oF, bF, sF⟩

end Go.Proofs.Ytachkoledebanaa
