/-
  ReadRow: the program's.
-/
import Derived.Test.YtachkoledebanabGreatDoorRin
namespace Go.Proofs.YtachkoledebanabGreatDoor
open Go.RowKit Go.Deep

/-- what a text tells, in lists that the answer owns -/
def RetOwnT (xs : List UInt8) (lo : Nat) (e : Ending) (w' : World) : Prop :=
  ∃ (c l : Int) (gs : List Sg) (bI cI : Nat → Nat) (s1 s2 s3 s4 : Option Addr) (k1 k2 k3 k4 : Nat), IsTold xs c l gs ∧ e = .returned (.agg #[.int .i64 c, .int .i64 l, .slice s1 gs.length k1, .slice s2 gs.length k2, .slice s3 gs.length k3, .slice s4 gs.length k4]) ∧
    Ow lo gs bI cI (.slice s1 gs.length k1) (.slice s2 gs.length k2) (.slice s3 gs.length k3) (.slice s4 gs.length k4) w'
theorem Ow.nil (lo : Nat) (w : World) : Ow lo [] (fun _ => 0) (fun _ => 0) (.slice none 0 0) (.slice none 0 0) (.slice none 0 0) (.slice none 0 0) w :=
  ⟨World.ownsRow_nil _ _ _ _, World.ownsRow_nil _ _ _ _, World.ownsRow_nil _ _ _ _, World.ownsRow_nil _ _ _ _, fun g e => by simp [Value.ownBlock] at e, fun j hj => absurd hj (Nat.not_lt_zero _), fun i j hi => absurd hi (Nat.not_lt_zero _)⟩
theorem RetOwnT.fault {xs : List UInt8} {lo : Nat} {w' : World} {c l : Int} (h : IsTold xs c l []) : RetOwnT xs lo (.returned (.agg #[.int .i64 c, .int .i64 l, .slice none 0 0, .slice none 0 0, .slice none 0 0, .slice none 0 0])) w' :=
  ⟨c, l, [], fun _ => 0, fun _ => 0, none, none, none, none, 0, 0, 0, 0, h, rfl, Ow.nil lo w'⟩
theorem laid6_ow {B T : Nat} {gs : List Sg} {bI cI : Nat → Nat} {v1 v2 v3 v4 : Value} {w : World} (h : Ow B gs bI cI v1 v2 v3 v4 w) (hT : T < B) (x0 x1 x2 x3 x4 x5 : Value) : Ow B gs bI cI v1 v2 v3 v4 (laid6 w T x0 x1 x2 x3 x4 x5) := (((((h.set hT).set hT).set hT).set hT).set hT).set hT

set_option maxHeartbeats 8000000 in
theorem implReadRow_any (xs : List UInt8) (w : World) (L : Laid w) (hx : xs.length ≤ 1048576) :
    Calls Tryz.prog 6 #[.string (bs xs)] w fun e w' => RetOwnT xs w.heap.size e w' ∧ Below w.heap.size w w' := by
  have HL : Hid (Laid w) := L
  have hk := Blk.new w #[.int .i64 0, .int .i64 0, .slice none 0 0, .slice none 0 0, .slice none 0 0, .slice none 0 0] 28
  have hb : Below w.heap.size w (w.alloc (.cells #[.int .i64 0, .int .i64 0, .slice none 0 0, .slice none 0 0, .slice none 0 0, .slice none 0 0] 28)) := (Below.refl _ _).alloc (Nat.le_refl _) _
  have hs1 : (w.alloc (.cells #[.int .i64 0, .int .i64 0, .slice none 0 0, .slice none 0 0, .slice none 0 0, .slice none 0 0] 28)).heap.size = w.heap.size + 1 := by simp
  have hri := rowIn_any xs _ (L.keep hb) hx
  have HK : Hid _ := hk
  have HB : Hid _ := hb
  have HS : Hid _ := hs1
  clear L hk hb hs1
  go_enter Tryz.func6, Tryz.ntmps6
  go_wp2_with fail
  generalize (w.alloc (.cells #[.int .i64 0, .int .i64 0, .slice none 0 0, .slice none 0 0, .slice none 0 0, .slice none 0 0] 28)) = W at *
  refine hri.mono ?_
  rintro e w2 ⟨hret, hb2⟩
  clear hri
  have HB2 : Hid (Below w.heap.size w w2) := chain HB.out hb2
  have HL2 : Hid (Laid w2) := HL.out.keep HB2.out
  have HK2 : Hid (Blk w2 w.heap.size #[.int .i64 0, .int .i64 0, .slice none 0 0, .slice none 0 0, .slice none 0 0, .slice none 0 0] 28) := Blk.keep HK.out hb2
  have HF : Hid (∀ V, Below w2.heap.size w2 V → Blk V w.heap.size #[.int .i64 0, .int .i64 0, .slice none 0 0, .slice none 0 0, .slice none 0 0, .slice none 0 0] 28 ∧ Below w.heap.size w V) := fun V hV => ⟨HK2.out.keep hV, chain HB2.out hV⟩
  have HE : Hid (w.heap.size < w2.heap.size ∧ W.heap.size = w.heap.size + 1) := ⟨HK2.out.lt, HS.out⟩
  have HCW : Hid (∀ g v, W.cell? ⟨g, 0, none⟩ = some v → w2.cell? ⟨g, 0, none⟩ = some v) := fun g v h => cell_keep h hb2
  clear hb2
  cases hret with
  | row gs bI cI s1 s2 s3 s4 k1 k2 k3 k4 ht he ho =>
    subst he
    have HT : Hid (IsTold xs 0 0 gs) := ht
    have hkb := HK2.out
    have t0 := hkb.cell 0
    have t1 := hkb.cell 1
    have t2 := hkb.cell 2
    have t3 := hkb.cell 3
    have t4 := hkb.cell 4
    have t5 := hkb.cell 5
    have f0 := hkb.free 0
    have f1 := hkb.free 1
    have f2 := hkb.free 2
    have f3 := hkb.free 3
    have f4 := hkb.free 4
    have f5 := hkb.free 5
    simp only [List.getElem?_toArray, List.getElem?_cons_succ, List.getElem?_cons_zero] at t0 t1 t2 t3 t4 t5
    have hC := ((laid6_blk hkb (.int .i64 0) (.int .i64 0) (.slice s1 gs.length k1) (.slice s2 gs.length k2) (.slice s3 gs.length k3) (.slice s4 gs.length k4)).alloc (.cells #[.slice s1 gs.length k1, .slice s2 gs.length k2, .slice s3 gs.length k3, .slice s4 gs.length k4] 26)).alloc (.cells #[.int .i64 0] 42)
    have hz2 : w.heap.size ≤ w2.heap.size := by have := HE.out; omega
    have hBf := ((laid6_below HB2.out (Nat.le_refl _) (.int .i64 0) (.int .i64 0) (.slice s1 gs.length k1) (.slice s2 gs.length k2) (.slice s3 gs.length k3) (.slice s4 gs.length k4)).alloc (by simp [laid6]; omega) (.cells #[.slice s1 gs.length k1, .slice s2 gs.length k2, .slice s3 gs.length k3, .slice s4 gs.length k4] 26)).alloc (by simp [laid6]; omega) (.cells #[.int .i64 0] 42)
    have hO1 := laid6_ow ho (T := w.heap.size) (by have := HE.out; omega) (.int .i64 0) (.int .i64 0) (.slice s1 gs.length k1) (.slice s2 gs.length k2) (.slice s3 gs.length k3) (.slice s4 gs.length k4)
    have hOf := (hO1.keep (((Below.refl _ _).alloc (Nat.le_refl _) (.cells #[.slice s1 gs.length k1, .slice s2 gs.length k2, .slice s3 gs.length k3, .slice s4 gs.length k4] 26)).alloc (by simp) (.cells #[.int .i64 0] 42))).low (lo := w.heap.size) (by have := HE.out; omega)
    have c0 := hC.cell 0
    have c1 := hC.cell 1
    have c2 := hC.cell 2
    have c3 := hC.cell 3
    have c4 := hC.cell 4
    have c5 := hC.cell 5
    unfold laid6 at c0 c1 c2 c3 c4 c5 hBf hOf
    simp only [List.getElem?_toArray, List.getElem?_cons_succ, List.getElem?_cons_zero] at c0 c1 c2 c3 c4 c5
    have HBf : Hid _ := hBf
    have HOf : Hid _ := hOf
    have hltz : w.heap.size < w2.heap.size := HE.out.1
    clear hC hBf hOf hO1 hkb ho ht
    go_wp2
    refine bodyPost_ret (v := .agg #[.int .i64 0, .int .i64 0, .slice s1 gs.length k1, .slice s2 gs.length k2, .slice s3 gs.length k3, .slice s4 gs.length k4]) ?_ rfl ⟨⟨0, 0, gs, bI, cI, s1, s2, s3, s4, k1, k2, k3, k4, HT.out, rfl, HOf.out⟩, HBf.out⟩
    simp [results, Tryz.results6, go_sem, c0, c1, c2, c3, c4, c5]
  | line k ht he =>
    subst he
    unfold zRow
    have HT : Hid (IsTold xs 1 k []) := ht
    have hal : Below w2.heap.size w2 ((w2.alloc (.cells #[.slice none 0 0, .slice none 0 0, .slice none 0 0, .slice none 0 0] 26)).alloc (.cells #[.int .i64 0] 42)) := ((Below.refl _ _).alloc (Nat.le_refl _) _).alloc (by simp) _
    have hle : Blk ((w2.alloc (.cells #[.slice none 0 0, .slice none 0 0, .slice none 0 0, .slice none 0 0] 26)).alloc (.cells #[.int .i64 0] 42)) (w2.heap.size + 1) #[.int .i64 0] 42 := by
      have := Blk.new (w2.alloc (.cells #[.slice none 0 0, .slice none 0 0, .slice none 0 0, .slice none 0 0] 26)) #[.int .i64 0] 42
      simpa using this
    have hL5 : Laid ((w2.alloc (.cells #[.slice none 0 0, .slice none 0 0, .slice none 0 0, .slice none 0 0] 26)).alloc (.cells #[.int .i64 0] 42)) := HL2.out.keep hal
    have has := as_hit k (w2.heap.size + 1) (.int .i64 0) _ hL5 hle
    have HAL : Hid _ := hal
    clear hle hL5 ht hal
    go_wp2_with fail
    generalize ((w2.alloc (.cells #[.slice none 0 0, .slice none 0 0, .slice none 0 0, .slice none 0 0] 26)).alloc (.cells #[.int .i64 0] 42)) = W5 at *
    refine has.mono ?_
    rintro e w6 ⟨rfl, hle6, ho6⟩
    clear has
    have hbw0 : Below w2.heap.size w2 w6 := by
      have h1 : Below w2.heap.size w2 W5 := HAL.out
      exact h1.trans (ho6.below (by omega) h1.size)
    obtain ⟨hkb, hbw⟩ := HF.out w6 hbw0
    have y0 := hle6.cell 0
    simp at y0
    have t0 := hkb.cell 0
    have t1 := hkb.cell 1
    have t2 := hkb.cell 2
    have t3 := hkb.cell 3
    have t4 := hkb.cell 4
    have t5 := hkb.cell 5
    have f0 := hkb.free 0
    have f1 := hkb.free 1
    have f2 := hkb.free 2
    have f3 := hkb.free 3
    have f4 := hkb.free 4
    have f5 := hkb.free 5
    simp only [List.getElem?_toArray, List.getElem?_cons_succ, List.getElem?_cons_zero] at t0 t1 t2 t3 t4 t5
    have hC := laid6_blk hkb (.int .i64 1) (.int .i64 k) (.slice none 0 0) (.slice none 0 0) (.slice none 0 0) (.slice none 0 0)
    have hBf := laid6_below hbw (Nat.le_refl _) (.int .i64 1) (.int .i64 k) (.slice none 0 0) (.slice none 0 0) (.slice none 0 0) (.slice none 0 0)
    have c0 := hC.cell 0
    have c1 := hC.cell 1
    have c2 := hC.cell 2
    have c3 := hC.cell 3
    have c4 := hC.cell 4
    have c5 := hC.cell 5
    unfold laid6 at c0 c1 c2 c3 c4 c5 hBf
    simp only [List.getElem?_toArray, List.getElem?_cons_succ, List.getElem?_cons_zero] at c0 c1 c2 c3 c4 c5
    have HBf : Hid _ := hBf
    clear hC hBf hkb hbw hle6 ho6 hbw0
    go_wp2
    refine bodyPost_ret (v := .agg #[.int .i64 1, .int .i64 k, .slice none 0 0, .slice none 0 0, .slice none 0 0, .slice none 0 0]) ?_ rfl ⟨RetOwnT.fault HT.out, HBf.out⟩
    simp [results, Tryz.results6, go_sem, c0, c1, c2, c3, c4, c5]
  | long a hl ha he =>
    subst he
    unfold zRow
    have HT : Hid (IsTold xs 2 0 []) := told_long hl
    have hal : Below w2.heap.size w2 ((w2.alloc (.cells #[.slice none 0 0, .slice none 0 0, .slice none 0 0, .slice none 0 0] 26)).alloc (.cells #[.int .i64 0] 42)) := ((Below.refl _ _).alloc (Nat.le_refl _) _).alloc (by simp) _
    have hle : Blk ((w2.alloc (.cells #[.slice none 0 0, .slice none 0 0, .slice none 0 0, .slice none 0 0] 26)).alloc (.cells #[.int .i64 0] 42)) (w2.heap.size + 1) #[.int .i64 0] 42 := by
      have := Blk.new (w2.alloc (.cells #[.slice none 0 0, .slice none 0 0, .slice none 0 0, .slice none 0 0] 26)) #[.int .i64 0] 42
      simpa using this
    have hL5 : Laid ((w2.alloc (.cells #[.slice none 0 0, .slice none 0 0, .slice none 0 0, .slice none 0 0] 26)).alloc (.cells #[.int .i64 0] 42)) := HL2.out.keep hal
    have has := as_miss a (w2.heap.size + 1) _ hL5
    have HAL : Hid _ := hal
    have ha2 := HCW.out _ _ ha
    clear hle hL5 hl ha hal
    go_wp2_with fail
    generalize ((w2.alloc (.cells #[.slice none 0 0, .slice none 0 0, .slice none 0 0, .slice none 0 0] 26)).alloc (.cells #[.int .i64 0] 42)) = W5 at *
    refine has.mono ?_
    rintro e w6 ⟨rfl, hb6⟩
    clear has
    have hbw0 : Below w2.heap.size w2 w6 := chain HAL.out hb6
    have ha6 := cell_keep ha2 hbw0
    have his := is_same a w6
    clear ha2
    go_wp2_with fail
    refine his.mono ?_
    rintro e w7 ⟨rfl, hw7⟩
    have hw7 := hw7.symm
    subst hw7
    obtain ⟨hkb, hbw⟩ := HF.out w6 hbw0
    clear his ha6
    have t0 := hkb.cell 0
    have t1 := hkb.cell 1
    have t2 := hkb.cell 2
    have t3 := hkb.cell 3
    have t4 := hkb.cell 4
    have t5 := hkb.cell 5
    have f0 := hkb.free 0
    have f1 := hkb.free 1
    have f2 := hkb.free 2
    have f3 := hkb.free 3
    have f4 := hkb.free 4
    have f5 := hkb.free 5
    simp only [List.getElem?_toArray, List.getElem?_cons_succ, List.getElem?_cons_zero] at t0 t1 t2 t3 t4 t5
    have hC := laid6_blk hkb (.int .i64 2) (.int .i64 0) (.slice none 0 0) (.slice none 0 0) (.slice none 0 0) (.slice none 0 0)
    have hBf := laid6_below hbw (Nat.le_refl _) (.int .i64 2) (.int .i64 0) (.slice none 0 0) (.slice none 0 0) (.slice none 0 0) (.slice none 0 0)
    have c0 := hC.cell 0
    have c1 := hC.cell 1
    have c2 := hC.cell 2
    have c3 := hC.cell 3
    have c4 := hC.cell 4
    have c5 := hC.cell 5
    unfold laid6 at c0 c1 c2 c3 c4 c5 hBf
    simp only [List.getElem?_toArray, List.getElem?_cons_succ, List.getElem?_cons_zero] at c0 c1 c2 c3 c4 c5
    have HBf : Hid _ := hBf
    clear hC hBf hkb hbw hb6 hbw0
    go_wp2
    refine bodyPost_ret (v := .agg #[.int .i64 2, .int .i64 0, .slice none 0 0, .slice none 0 0, .slice none 0 0, .slice none 0 0]) ?_ rfl ⟨RetOwnT.fault HT.out, HBf.out⟩
    simp [results, Tryz.results6, go_sem, c0, c1, c2, c3, c4, c5]
  | wrong b ht hb he =>
    subst he
    unfold zRow
    have HT : Hid (IsTold xs 3 0 []) := ht
    have hal : Below w2.heap.size w2 ((w2.alloc (.cells #[.slice none 0 0, .slice none 0 0, .slice none 0 0, .slice none 0 0] 26)).alloc (.cells #[.int .i64 0] 42)) := ((Below.refl _ _).alloc (Nat.le_refl _) _).alloc (by simp) _
    have hle : Blk ((w2.alloc (.cells #[.slice none 0 0, .slice none 0 0, .slice none 0 0, .slice none 0 0] 26)).alloc (.cells #[.int .i64 0] 42)) (w2.heap.size + 1) #[.int .i64 0] 42 := by
      have := Blk.new (w2.alloc (.cells #[.slice none 0 0, .slice none 0 0, .slice none 0 0, .slice none 0 0] 26)) #[.int .i64 0] 42
      simpa using this
    have hL5 : Laid ((w2.alloc (.cells #[.slice none 0 0, .slice none 0 0, .slice none 0 0, .slice none 0 0] 26)).alloc (.cells #[.int .i64 0] 42)) := HL2.out.keep hal
    have has := as_miss b (w2.heap.size + 1) _ hL5
    have HAL : Hid _ := hal
    have hb2' := HCW.out _ _ hb
    clear hle hL5 ht hb hal
    go_wp2_with fail
    generalize ((w2.alloc (.cells #[.slice none 0 0, .slice none 0 0, .slice none 0 0, .slice none 0 0] 26)).alloc (.cells #[.int .i64 0] 42)) = W5 at *
    refine has.mono ?_
    rintro e w6 ⟨rfl, hb6⟩
    clear has
    have hbw0 : Below w2.heap.size w2 w6 := chain HAL.out hb6
    obtain ⟨a', b', h1, h2, h3, ⟨ca, ta, h4⟩, ⟨cb, tb, h5⟩⟩ := (HL2.out.keep hbw0).er
    have hbe : b = b' := by
      have h6 := cell_keep hb2' hbw0
      rw [h2] at h6
      simpa using h6.symm
    subst hbe
    have his := is_other b a' cb ca tb ta w6 (fun u => h3 u.symm) h5 h4
    clear hb2' h2 h3 h4 h5
    go_wp2_with fail
    refine his.mono ?_
    rintro e w7 ⟨rfl, hw7⟩
    have hw7 := hw7.symm
    subst hw7
    obtain ⟨hkb, hbw⟩ := HF.out w6 hbw0
    clear his h1
    have t0 := hkb.cell 0
    have t1 := hkb.cell 1
    have t2 := hkb.cell 2
    have t3 := hkb.cell 3
    have t4 := hkb.cell 4
    have t5 := hkb.cell 5
    have f0 := hkb.free 0
    have f1 := hkb.free 1
    have f2 := hkb.free 2
    have f3 := hkb.free 3
    have f4 := hkb.free 4
    have f5 := hkb.free 5
    simp only [List.getElem?_toArray, List.getElem?_cons_succ, List.getElem?_cons_zero] at t0 t1 t2 t3 t4 t5
    have hC := laid6_blk hkb (.int .i64 3) (.int .i64 0) (.slice none 0 0) (.slice none 0 0) (.slice none 0 0) (.slice none 0 0)
    have hBf := laid6_below hbw (Nat.le_refl _) (.int .i64 3) (.int .i64 0) (.slice none 0 0) (.slice none 0 0) (.slice none 0 0) (.slice none 0 0)
    have c0 := hC.cell 0
    have c1 := hC.cell 1
    have c2 := hC.cell 2
    have c3 := hC.cell 3
    have c4 := hC.cell 4
    have c5 := hC.cell 5
    unfold laid6 at c0 c1 c2 c3 c4 c5 hBf
    simp only [List.getElem?_toArray, List.getElem?_cons_succ, List.getElem?_cons_zero] at c0 c1 c2 c3 c4 c5
    have HBf : Hid _ := hBf
    clear hC hBf hkb hbw hb6 hbw0
    go_wp2
    refine bodyPost_ret (v := .agg #[.int .i64 3, .int .i64 0, .slice none 0 0, .slice none 0 0, .slice none 0 0, .slice none 0 0]) ?_ rfl ⟨RetOwnT.fault HT.out, HBf.out⟩
    simp [results, Tryz.results6, go_sem, c0, c1, c2, c3, c4, c5]

end Go.Proofs.YtachkoledebanabGreatDoor
