/-
  The program's reading of a text's lines.
-/
import Derived.Test.YtachkoledebanabGreatDoorAdd
import Derived.Test.YtachkoledebanabGreatDoorBckEtc
import Derived.WalkMore
namespace Go.Proofs.YtachkoledebanabGreatDoor
open Go.RowKit Go.Deep

/-- four lists of signals' parts, in blocks of their own -/
structure Ow (B : Nat) (gs : List Sg) (bI cI : Nat → Nat) (v1 v2 v3 v4 : Value) (w : World) : Prop where
  o1 : w.ownsRow B 3 1 v1 gs.length (gs.map nxV)
  o2 : w.ownsRow B 3 1 v2 gs.length (gs.map frV)
  o3 : w.ownsRow B 4 1 v3 gs.length (gs.map opV)
  o4 : w.ownsRow B 23 1 v4 gs.length (wkV bI cI gs.length)
  ap : ∀ g, v1.ownBlock = some g → v2.ownBlock ≠ some g
  inn : ∀ j, j < gs.length → w.ownsRow B 4 1 (.slice (some ⟨bI j, 0, none⟩) 4 (cI j)) 4 (lampV (gs.getD j nilSg)) ∧ v3.ownBlock ≠ some (bI j)
theorem owns_keep {w w' : World} {base e s n : Nat} {v : Value} {xs : List Value} (h : w.ownsRow base e s v n xs) (hb : Below w.heap.size w w') : w'.ownsRow base e s v n xs := owns_only h (Only.ofBelow (lo := 0) (hi := 0) hb) (Nat.zero_le _)
theorem Ow.keep {B : Nat} {gs : List Sg} {bI cI : Nat → Nat} {v1 v2 v3 v4 : Value} {w w' : World} (h : Ow B gs bI cI v1 v2 v3 v4 w) (hb : Below w.heap.size w w') : Ow B gs bI cI v1 v2 v3 v4 w' :=
  ⟨owns_keep h.o1 hb, owns_keep h.o2 hb, owns_keep h.o3 hb, owns_keep h.o4 hb, h.ap, fun j hj => ⟨owns_keep (h.inn j hj).1 hb, (h.inn j hj).2⟩⟩
theorem Ow.low {B lo : Nat} {gs : List Sg} {bI cI : Nat → Nat} {v1 v2 v3 v4 : Value} {w : World} (h : Ow B gs bI cI v1 v2 v3 v4 w) (hl : lo ≤ B) : Ow lo gs bI cI v1 v2 v3 v4 w :=
  ⟨owns_lo h.o1 hl, owns_lo h.o2 hl, owns_lo h.o3 hl, owns_lo h.o4 hl, h.ap, fun j hj => ⟨owns_lo (h.inn j hj).1 hl, (h.inn j hj).2⟩⟩
theorem Ow.set {B T q : Nat} {gs : List Sg} {bI cI : Nat → Nat} {v1 v2 v3 v4 x : Value} {w : World} (h : Ow B gs bI cI v1 v2 v3 v4 w) (hT : T < B) : Ow B gs bI cI v1 v2 v3 v4 (w.setCell ⟨T, q, none⟩ x) := by
  have hR : ∀ {e s n : Nat} {v : Value} {xs : List Value}, w.ownsRow B e s v n xs → (w.setCell ⟨T, q, none⟩ x).ownsRow B e s v n xs := fun hv => ownsRow_setCell_other hv (fun e => by have := (hv.lt T e).1; omega) _
  exact ⟨hR h.o1, hR h.o2, hR h.o3, hR h.o4, h.ap, fun j hj => ⟨hR (h.inn j hj).1, (h.inn j hj).2⟩⟩
theorem Gr.ow {w wr : World} {R B : Nat} {gs : List Sg} {bI cI : Nat → Nat} {v1 v2 v3 v4 : Value} (h : Gr w R B gs gs gs gs bI cI v1 v2 v3 v4 wr) : Ow B gs bI cI v1 v2 v3 v4 wr := ⟨h.o1, h.o2, h.o3, h.o4, h.ap, h.inn⟩
theorem Ow.at {B : Nat} {gs : List Sg} {bI cI : Nat → Nat} {s1 s2 s3 s4 : Option Addr} {k1 k2 k3 k4 : Nat} {w : World} (h : Ow B gs bI cI (.slice s1 gs.length k1) (.slice s2 gs.length k2) (.slice s3 gs.length k3) (.slice s4 gs.length k4) w) :
    RowAt w s1 s2 s3 s4 (fun j => some ⟨bI j, 0, none⟩) cI (rowsOf gs) := rowAt_owns h.o1 h.o2 h.o3 h.o4 fun j hj => (h.inn j hj).1

/-- four cells laid -/
def put4 (w : World) (B : Nat) (x0 x1 x2 x3 : Value) : World := (((w.setCell ⟨B, 0, none⟩ x0).setCell ⟨B, 1, none⟩ x1).setCell ⟨B, 2, none⟩ x2).setCell ⟨B, 3, none⟩ x3
theorem put4_below {w W : World} {B lo : Nat} (h : Below lo w W) (hl : lo ≤ B) (x0 x1 x2 x3 : Value) : Below lo w (put4 W B x0 x1 x2 x3) := (((h.setCell (p := ⟨B, 0, none⟩) hl _).setCell (p := ⟨B, 1, none⟩) hl _).setCell (p := ⟨B, 2, none⟩) hl _).setCell (p := ⟨B, 3, none⟩) hl _
theorem put4_blk {w : World} {B t : Nat} {u0 u1 u2 u3 : Value} (h : Blk w B #[u0, u1, u2, u3] t) (x0 x1 x2 x3 : Value) : Blk (put4 w B x0 x1 x2 x3) B #[x0, x1, x2, x3] t := by
  have h1 := (((h.set 0 x0).set 1 x1).set 2 x2).set 3 x3
  unfold put4
  simpa using h1
theorem put4_ow {B T : Nat} {gs : List Sg} {bI cI : Nat → Nat} {v1 v2 v3 v4 : Value} {w : World} (h : Ow B gs bI cI v1 v2 v3 v4 w) (hT : T < B) (x0 x1 x2 x3 : Value) : Ow B gs bI cI v1 v2 v3 v4 (put4 w T x0 x1 x2 x3) := (((h.set hT).set hT).set hT).set hT

/-- what has been read ahead of the rest -/
structure GotP (xs : List UInt8) (ls : List (List UInt8)) (gs : List Sg) (rest : List UInt8) : Prop where
  li : linesA [] xs = (ls ++ (linesA [] rest).1, (linesA [] rest).2)
  rd : Reads ls gs
  sm : gs.length + rest.length ≤ xs.length
theorem GotP.start (xs : List UInt8) : GotP xs [] [] xs := ⟨by simp, rfl, by simp⟩
theorem linesA_none {l : List UInt8} (h : NoNl l) : linesA [] l = ([], l) := by
  have := linesA_nonl l [] [] h
  simpa [linesA] using this
theorem GotP.next {xs : List UInt8} {ls : List (List UInt8)} {gs : List Sg} {x y : List UInt8} {g : Sg} (h : GotP xs ls gs (x ++ 10 :: y)) (hx : NoNl x) (hg : IsLine x g) : GotP xs (ls ++ [x]) (gs ++ [g]) y := by
  have e := linesA_cons (x := x) (y := y) hx
  refine ⟨?_, h.rd.snoc hg, by have := h.sm; simp at this ⊢; omega⟩
  rw [h.li, show x ++ 10 :: y = x ++ ([10] ++ y) from rfl, e]
  simp
theorem GotP.bad {xs : List UInt8} {ls : List (List UInt8)} {gs : List Sg} {x y : List UInt8} (h : GotP xs ls gs (x ++ 10 :: y)) (hx : NoNl x) (hn : xs.length ≤ 10000) (hg : ∀ g, ¬ IsLine x g) : IsTold xs 1 (gs.length + 1) [] := by
  have e := linesA_cons (x := x) (y := y) hx
  have e1 : (linesA [] xs).1 = ls ++ x :: (linesA [] y).1 := by
    rw [h.li, show x ++ 10 :: y = x ++ ([10] ++ y) from rfl, e]
  have hl := h.rd.len
  refine Or.inr (Or.inl ⟨hn, ls.length, ⟨?_, ⟨gs, ?_⟩, ?_⟩, rfl, by rw [hl], rfl⟩)
  · rw [e1]; simp
  · rw [e1]; simpa using h.rd
  · rw [e1]
    intro g q
    refine hg g ?_
    simpa using q
theorem GotP.left {xs : List UInt8} {ls : List (List UInt8)} {gs : List Sg} {r : List UInt8} (h : GotP xs ls gs r) (hr : NoNl r) (hne : r ≠ []) (hn : xs.length ≤ 10000) : IsTold xs 1 (gs.length + 1) [] := by
  have e := linesA_none hr
  have li := h.li
  rw [e] at li
  simp at li
  exact Or.inr (Or.inr (Or.inl ⟨hn, gs, by rw [li]; exact h.rd, by rw [li]; exact hne, rfl, rfl, rfl⟩))
theorem GotP.fin {xs : List UInt8} {ls : List (List UInt8)} {gs : List Sg} (h : GotP xs ls gs []) : Reads (linesA [] xs).1 gs ∧ (linesA [] xs).2 = [] := by
  have li := h.li
  simp [linesA] at li
  rw [li]
  exact ⟨h.rd, rfl⟩

def zRow : Value := .agg #[.slice none 0 0, .slice none 0 0, .slice none 0 0, .slice none 0 0]
def RetSgs (xs : List UInt8) (lo : Nat) (e : Ending) (w' : World) : Prop :=
  (∃ k : Int, IsTold xs 1 k [] ∧ e = .returned (.tuple #[zRow, .iface 42 (.agg #[.int .i64 k])])) ∨
  ∃ gs bI cI s1 s2 s3 s4 k1 k2 k3 k4, gs.length ≤ xs.length ∧ Reads (linesA [] xs).1 gs ∧ (linesA [] xs).2 = [] ∧ e = .returned (.tuple #[.agg #[.slice s1 gs.length k1, .slice s2 gs.length k2, .slice s3 gs.length k3, .slice s4 gs.length k4], .nilIface]) ∧
    Ow lo gs bI cI (.slice s1 gs.length k1) (.slice s2 gs.length k2) (.slice s3 gs.length k3) (.slice s4 gs.length k4) w'
theorem RetSgs.bad {xs : List UInt8} {lo : Nat} {e : Ending} {w' : World} (k : Int) (h : IsTold xs 1 k []) (he : e = .returned (.tuple #[zRow, .iface 42 (.agg #[.int .i64 k])])) : RetSgs xs lo e w' := Or.inl ⟨k, h, he⟩

theorem RetSgs.row {xs : List UInt8} {lo : Nat} {e : Ending} {w' : World} {gs : List Sg} {bI cI : Nat → Nat} {s1 s2 s3 s4 : Option Addr} {k1 k2 k3 k4 : Nat} (hl : gs.length ≤ xs.length) (hr : Reads (linesA [] xs).1 gs ∧ (linesA [] xs).2 = []) (he : e = .returned (.tuple #[.agg #[.slice s1 gs.length k1, .slice s2 gs.length k2, .slice s3 gs.length k3, .slice s4 gs.length k4], .nilIface]))
    (ho : Ow lo gs bI cI (.slice s1 gs.length k1) (.slice s2 gs.length k2) (.slice s3 gs.length k3) (.slice s4 gs.length k4) w') : RetSgs xs lo e w' := Or.inr ⟨gs, bI, cI, s1, s2, s3, s4, k1, k2, k3, k4, hl, hr.1, hr.2, he, ho⟩

set_option maxHeartbeats 8000000 in
theorem signalsIn_any (xs : List UInt8) (w : World) (L : Laid w) (hx : xs.length ≤ 10000) :
    Calls Tryz.prog 32 #[.string (bs xs)] w fun e w' => RetSgs xs w.heap.size e w' ∧ Below w.heap.size w w' := by
  have HL : Hid (Laid w) := L
  clear L
  obtain ⟨W1, hW1⟩ : ∃ W1, W1 = (w.alloc (.cells #[.slice none 0 0, .slice none 0 0, .slice none 0 0, .slice none 0 0] 26)).alloc (.cells #[.slice none 0 0, .slice none 0 0, .slice none 0 0, .slice none 0 0] 26) := ⟨_, rfl⟩
  have hs1 : W1.heap.size = w.heap.size + 2 := by rw [hW1]; simp
  have hb1 : Below w.heap.size w W1 := by rw [hW1]; exact ((Below.refl _ _).alloc (Nat.le_refl _) _).alloc (by simp) _
  have hk0 : Blk W1 w.heap.size #[.slice none 0 0, .slice none 0 0, .slice none 0 0, .slice none 0 0] 26 := by rw [hW1]; exact (Blk.new w _ _).alloc _
  have hg0 : Rw W1 (w.heap.size + 1) (w.heap.size + 2) [] W1 := by
    refine Rw.mk (m := 0) (bI := fun _ => 0) (cI := fun _ => 0) (s1 := none) (s2 := none) (s3 := none) (s4 := none) (k1 := 0) (k2 := 0) (k3 := 0) (k4 := 0) rfl ⟨Below.refl _ _, ?_, ⟨rfl, Or.inl ⟨rfl, rfl⟩⟩, ⟨rfl, Or.inl ⟨rfl, rfl⟩⟩, ⟨rfl, Or.inl ⟨rfl, rfl⟩⟩, ⟨rfl, Or.inl ⟨rfl, rfl⟩⟩, fun g e => (by cases e), fun j hj => absurd hj (Nat.not_lt_zero _)⟩
    rw [hW1]
    have := Blk.new (w.alloc (.cells #[.slice none 0 0, .slice none 0 0, .slice none 0 0, .slice none 0 0] 26)) #[.slice none 0 0, .slice none 0 0, .slice none 0 0, .slice none 0 0] 26
    simpa using this
  have HK0 : Hid (Blk W1 w.heap.size #[.slice none 0 0, .slice none 0 0, .slice none 0 0, .slice none 0 0] 26) := hk0
  have HB1 : Hid (Below w.heap.size w W1) := hb1
  have HG0 : Hid (Rw W1 (w.heap.size + 1) (w.heap.size + 2) [] W1) := hg0
  have HS1 : Hid (W1.heap.size = w.heap.size + 2) := hs1
  clear hs1 hb1 hk0 hg0
  go_enter Tryz.func32, Tryz.ntmps32
  go_wp2
  go_step3
  go_wp2
  go_step3
  go_wp2
  rw [← hW1]
  clear hW1
  go_loopw [0, 5] (fun t n wr => ∃ ls gs rest, t = .string (bs rest) ∧ n = .int .i64 ((gs.length : Int) + 1) ∧ GotP xs ls gs rest ∧ Rw W1 (w.heap.size + 1) (w.heap.size + 2) gs wr ∧ w.heap.size + 2 ≤ wr.heap.size) (fun t _ _ => (match t with | .string s => s.size | _ => 0))
  case atStart => exact ⟨[], [], xs, rfl, rfl, GotP.start xs, HG0.out, by have := HS1.out; omega⟩
  case round =>
    obtain ⟨ls, gs, rest, rfl, rfl, hgot, hrw, hwz⟩ := hrel
    have hrl : rest.length ≤ 10000 := by have := hgot.sm; omega
    have hgl : gs.length ≤ 10000 := by have := hgot.sm; omega
    have HGT : Hid (GotP xs ls gs rest) := hgot
    have HRW : Hid (Rw W1 (w.heap.size + 1) (w.heap.size + 2) gs wr) := hrw
    have HBW : Hid (∀ V, (∃ g, Rw W1 (w.heap.size + 1) (w.heap.size + 2) g V) → Below (w.heap.size + 1) W1 V ∧ Below w.heap.size w V) := fun V ⟨g, h⟩ => by
      obtain ⟨bI, cI, s1, s2, s3, s4, k1, k2, k3, k4, h⟩ := h
      exact ⟨h.bel, HB1.out.trans (h.bel.mono (by omega))⟩
    have hcut := cut_any 10 rest wr hrl (HL.out.keep (HBW.out wr ⟨_, hrw⟩).2).max
    clear hgot hrw
    go_wp2_with fail
    refine hcut.mono ?_
    rintro e w2 ⟨⟨x, y, m, rfl, hc⟩, hb2, hs2⟩
    have HR2 : Hid (Rw W1 (w.heap.size + 1) (w.heap.size + 2) gs w2) := HRW.out.keep hb2
    have hz2 : w.heap.size + 2 ≤ w2.heap.size := by omega
    clear hcut hb2 HRW hs2
    have HKB : Hid (∀ V g, Rw W1 (w.heap.size + 1) (w.heap.size + 2) g V → Blk V w.heap.size #[.slice none 0 0, .slice none 0 0, .slice none 0 0, .slice none 0 0] 26) := fun V g h => HK0.out.below (HBW.out V ⟨g, h⟩).1 (by omega)
    by_cases hr : rest = []
    case pos =>
      have z0 : ((bs rest).toList == []) = true := by rw [bs_list, beq_iff_eq]; exact hr
      have hfin : Reads (linesA [] xs).1 gs ∧ (linesA [] xs).2 = [] := by have := HGT.out; rw [hr] at this; exact this.fin
      have hgx : gs.length ≤ xs.length := by have := HGT.out.sm; omega
      obtain ⟨bI, cI, s1, s2, s3, s4, k1, k2, k3, k4, hG⟩ := HR2.out
      have hkb := HKB.out w2 gs HR2.out
      have r0 := hG.bk.cell 0
      have r1 := hG.bk.cell 1
      have r2 := hG.bk.cell 2
      have r3 := hG.bk.cell 3
      have t0 := hkb.cell 0
      have t1 := hkb.cell 1
      have t2 := hkb.cell 2
      have t3 := hkb.cell 3
      have f0 := hkb.free 0
      have f1 := hkb.free 1
      have f2 := hkb.free 2
      have f3 := hkb.free 3
      simp at r0 r1 r2 r3 t0 t1 t2 t3
      have hC := put4_blk hkb (.slice s1 gs.length k1) (.slice s2 gs.length k2) (.slice s3 gs.length k3) (.slice s4 gs.length k4)
      have c0 := hC.cell 0
      have c1 := hC.cell 1
      have c2 := hC.cell 2
      have c3 := hC.cell 3
      have hB := put4_below (HBW.out w2 ⟨_, HR2.out⟩).2 (Nat.le_refl _) (.slice s1 gs.length k1) (.slice s2 gs.length k2) (.slice s3 gs.length k3) (.slice s4 gs.length k4)
      have hO := (put4_ow hG.ow (T := w.heap.size) (by omega) (.slice s1 gs.length k1) (.slice s2 gs.length k2) (.slice s3 gs.length k3) (.slice s4 gs.length k4)).low (lo := w.heap.size) (by omega)
      unfold put4 at c0 c1 c2 c3 hB hO
      simp only [List.getElem?_toArray, List.getElem?_cons_succ, List.getElem?_cons_zero] at c0 c1 c2 c3
      have HBf : Hid _ := hB
      have HOf : Hid _ := hO
      have HFN : Hid (Reads (linesA [] xs).1 gs ∧ (linesA [] xs).2 = []) := hfin
      clear hc hr hB hO hG hC hkb hfin
      go_wp2
      try rw [Exit.noGoto_ret]
      refine bodyPost_ret (v := .tuple #[.agg #[.slice s1 gs.length k1, .slice s2 gs.length k2, .slice s3 gs.length k3, .slice s4 gs.length k4], .nilIface]) ?_ rfl ⟨RetSgs.row hgx HFN.out rfl HOf.out, HBf.out⟩
      simp [results, Tryz.results32, go_sem, c0, c1, c2, c3]
    have z0 : ((bs rest).toList == []) = false := by rw [bs_list, beq_eq_false_iff_ne]; exact hr
    have HFault : Hid (∀ V g, Rw W1 (w.heap.size + 1) (w.heap.size + 2) g V → Blk V w.heap.size #[.slice none 0 0, .slice none 0 0, .slice none 0 0, .slice none 0 0] 26 ∧ Blk (put4 V w.heap.size (.slice none 0 0) (.slice none 0 0) (.slice none 0 0) (.slice none 0 0)) w.heap.size #[.slice none 0 0, .slice none 0 0, .slice none 0 0, .slice none 0 0] 26 ∧ Below w.heap.size w (put4 V w.heap.size (.slice none 0 0) (.slice none 0 0) (.slice none 0 0) (.slice none 0 0))) := fun V g h =>
      ⟨HKB.out V g h, put4_blk (HKB.out V g h) _ _ _ _, put4_below (HBW.out V ⟨g, h⟩).2 (Nat.le_refl _) _ _ _ _⟩
    cases m
    case false =>
      have hrn : NoNl rest := by
        rcases hc with ⟨-, -, -, h⟩ | ⟨h, -⟩
        · exact h
        · cases h
      have HTL : Hid (IsTold xs 1 ((gs.length : Int) + 1) []) := HGT.out.left hrn hr hx
      obtain ⟨hkb, hC, hB⟩ := HFault.out w2 gs HR2.out
      have t0 := hkb.cell 0
      have t1 := hkb.cell 1
      have t2 := hkb.cell 2
      have t3 := hkb.cell 3
      have f0 := hkb.free 0
      have f1 := hkb.free 1
      have f2 := hkb.free 2
      have f3 := hkb.free 3
      have c0 := hC.cell 0
      have c1 := hC.cell 1
      have c2 := hC.cell 2
      have c3 := hC.cell 3
      unfold put4 at c0 c1 c2 c3 hB
      simp only [List.getElem?_toArray, List.getElem?_cons_succ, List.getElem?_cons_zero] at c0 c1 c2 c3 t0 t1 t2 t3
      have HBf : Hid _ := hB
      clear hc hr hB hC hkb hrn
      go_wp2
      try rw [Exit.noGoto_ret]
      refine bodyPost_ret (v := .tuple #[zRow, .iface 42 (.agg #[.int .i64 ((gs.length : Int) + 1)])]) ?_ rfl ⟨RetSgs.bad _ HTL.out rfl, HBf.out⟩
      simp [results, Tryz.results32, go_sem, c0, c1, c2, c3, zRow]
    case true =>
      obtain ⟨hre, hxn⟩ : rest = x ++ 10 :: y ∧ NoNl x := by
        rcases hc with ⟨h, -⟩ | ⟨-, h1, h2⟩
        · cases h
        · exact ⟨h1, h2⟩
      subst hre
      have hxl : x.length ≤ 10000 := by simp at hrl; omega
      have hadd := addSignal_any W1 (w.heap.size + 1) (w.heap.size + 2) gs x w2 (HL.out.keep (HBW.out w2 ⟨_, HR2.out⟩).2) HR2.out (by omega) hz2 hgl hxl hxn
      have HXN : Hid (NoNl x) := hxn
      clear hc hr hxn
      go_wp2_with fail
      refine hadd.mono ?_
      rintro e w3 ⟨hra, hz3⟩
      clear hadd
      rcases hra with ⟨rfl, hno, hr3⟩ | ⟨g, rfl, hg, hr3⟩
      · have HTL : Hid (IsTold xs 1 ((gs.length : Int) + 1) []) := HGT.out.bad HXN.out hx hno
        obtain ⟨hkb, hC, hB⟩ := HFault.out w3 gs hr3
        have t0 := hkb.cell 0
        have t1 := hkb.cell 1
        have t2 := hkb.cell 2
        have t3 := hkb.cell 3
        have f0 := hkb.free 0
        have f1 := hkb.free 1
        have f2 := hkb.free 2
        have f3 := hkb.free 3
        have c0 := hC.cell 0
        have c1 := hC.cell 1
        have c2 := hC.cell 2
        have c3 := hC.cell 3
        unfold put4 at c0 c1 c2 c3 hB
        simp only [List.getElem?_toArray, List.getElem?_cons_succ, List.getElem?_cons_zero] at c0 c1 c2 c3 t0 t1 t2 t3
        have HBf : Hid _ := hB
        clear hB hC hkb hno hr3
        go_wp2
        try rw [Exit.noGoto_ret]
        refine bodyPost_ret (v := .tuple #[zRow, .iface 42 (.agg #[.int .i64 ((gs.length : Int) + 1)])]) ?_ rfl ⟨RetSgs.bad _ HTL.out rfl, HBf.out⟩
        simp [results, Tryz.results32, go_sem, c0, c1, c2, c3, zRow]
      · have HGN : Hid (GotP xs (ls ++ [x]) (gs ++ [g]) y) := HGT.out.next HXN.out hg
        have HR3 : Hid (Rw W1 (w.heap.size + 1) (w.heap.size + 2) (gs ++ [g]) w3) := hr3
        clear hg hr3
        go_wp2
        go_roundw
        case rel => exact ⟨ls ++ [x], gs ++ [g], y, rfl, by simp, HGN.out, HR3.out, by omega⟩
        case measure => simp [bs_size]; omega

end Go.Proofs.YtachkoledebanabGreatDoor
