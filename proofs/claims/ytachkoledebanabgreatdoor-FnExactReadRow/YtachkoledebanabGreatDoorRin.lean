/-
  The program's ReadRow.
-/
import Derived.Test.YtachkoledebanabGreatDoorSgs
import Derived.Test.YtachkoledebanabGreatDoorErr
import Derived.Test.YtachkoledebanabGreatDoorOk2
namespace Go.Proofs.YtachkoledebanabGreatDoor
open Go.RowKit Go.Deep

/-- what rowIn answers: the row, or why there is none -/
inductive RIn (xs : List UInt8) (lo : Nat) (w0 : World) (e : Ending) (w' : World) : Prop
  | long (a : Addr) (h : 10000 < xs.length) (ha : w0.cell? ⟨0, 0, none⟩ = some (.iface 174 (.pointer (some a)))) (he : e = .returned (.tuple #[zRow, .iface 174 (.pointer (some a))]))
  | line (k : Int) (h : IsTold xs 1 k []) (he : e = .returned (.tuple #[zRow, .iface 42 (.agg #[.int .i64 k])]))
  | wrong (b : Addr) (h : IsTold xs 3 0 []) (hb : w0.cell? ⟨1, 0, none⟩ = some (.iface 174 (.pointer (some b)))) (he : e = .returned (.tuple #[zRow, .iface 174 (.pointer (some b))]))
  | row (gs : List Sg) (bI cI : Nat → Nat) (s1 s2 s3 s4 : Option Addr) (k1 k2 k3 k4 : Nat) (h : IsTold xs 0 0 gs) (he : e = .returned (.tuple #[.agg #[.slice s1 gs.length k1, .slice s2 gs.length k2, .slice s3 gs.length k3, .slice s4 gs.length k4], .nilIface]))
      (ho : Ow lo gs bI cI (.slice s1 gs.length k1) (.slice s2 gs.length k2) (.slice s3 gs.length k3) (.slice s4 gs.length k4) w')

theorem ok_row {xs : List UInt8} {gs : List Sg} (hx : xs.length ≤ 10000) (h1 : Reads (linesA [] xs).1 gs) (h2 : (linesA [] xs).2 = []) (hr : Right (rowsOf gs)) : IsTold xs 0 0 gs := Or.inr (Or.inr (Or.inr ⟨hx, gs, h1, h2, Or.inr ⟨hr, rfl, rfl, rfl⟩⟩))
theorem ok_wrong {xs : List UInt8} {gs : List Sg} (hx : xs.length ≤ 10000) (h1 : Reads (linesA [] xs).1 gs) (h2 : (linesA [] xs).2 = []) (hr : ¬ Right (rowsOf gs)) : IsTold xs 3 0 [] := Or.inr (Or.inr (Or.inr ⟨hx, gs, h1, h2, Or.inl ⟨hr, rfl, rfl, rfl⟩⟩))
theorem rows_small {gs : List Sg} (h : gs.length ≤ 1048576) : Small (rowsOf gs) := ⟨h, h, h, h, fun _ _ => (by show 4 ≤ 1048576; omega)⟩

set_option maxHeartbeats 4000000 in
theorem rowIn_any (xs : List UInt8) (w : World) (L : Laid w) (hx : xs.length ≤ 1048576) :
    Calls Tryz.prog 14 #[.string (bs xs)] w fun e w' => RIn xs w.heap.size w e w' ∧ Below w.heap.size w w' := by
  have hsz := bs_size xs
  have HL : Hid (Laid w) := L
  have hk := Blk.new w #[.slice none 0 0, .slice none 0 0, .slice none 0 0, .slice none 0 0] 26
  have hb : Below w.heap.size w (w.alloc (.cells #[.slice none 0 0, .slice none 0 0, .slice none 0 0, .slice none 0 0] 26)) := (Below.refl _ _).alloc (Nat.le_refl _) _
  have hs1 : (w.alloc (.cells #[.slice none 0 0, .slice none 0 0, .slice none 0 0, .slice none 0 0] 26)).heap.size = w.heap.size + 1 := by simp
  go_enter Tryz.func14, Tryz.ntmps14
  by_cases hlong : 10000 < xs.length
  case pos =>
    obtain ⟨a, b, ha, -⟩ := L.er
    have ha' := cell_keep ha hb
    have z1 : decide ((10000 : Int) < (xs.length : Int)) = true := by simp; omega
    have HR : Hid (∀ w', RIn xs w.heap.size w (.returned (.tuple #[zRow, .iface 174 (.pointer (some a))])) w') := fun w' => .long a hlong ha rfl
    have c0 := hk.cell 0
    have c1 := hk.cell 1
    have c2 := hk.cell 2
    have c3 := hk.cell 3
    simp only [List.getElem?_toArray, List.getElem?_cons_succ, List.getElem?_cons_zero] at c0 c1 c2 c3
    clear L ha hk hs1
    go_wp2_with fail
    go_region
    all_goals
      go_wp2
      refine bodyPost_ret (v := .tuple #[zRow, .iface 174 (.pointer (some a))]) ?_ rfl ⟨HR.out _, hb.drew⟩
      simp [results, Tryz.results14, go_sem, c0, c1, c2, c3, zRow]
  have z1 : decide ((10000 : Int) < (xs.length : Int)) = false := by simp; omega
  have hx1 : xs.length ≤ 10000 := by omega
  have hsi := signalsIn_any xs _ (L.keep hb) hx1
  have HK : Hid (Blk (w.alloc (.cells #[.slice none 0 0, .slice none 0 0, .slice none 0 0, .slice none 0 0] 26)) w.heap.size #[.slice none 0 0, .slice none 0 0, .slice none 0 0, .slice none 0 0] 26) := hk
  have HB : Hid (Below w.heap.size w (w.alloc (.cells #[.slice none 0 0, .slice none 0 0, .slice none 0 0, .slice none 0 0] 26))) := hb
  have HS : Hid ((w.alloc (.cells #[.slice none 0 0, .slice none 0 0, .slice none 0 0, .slice none 0 0] 26)).heap.size = w.heap.size + 1) := hs1
  clear L hk hb hs1 hlong
  go_wp2_with fail
  generalize (w.alloc (.cells #[.slice none 0 0, .slice none 0 0, .slice none 0 0, .slice none 0 0] 26)) = W at *
  refine hsi.mono ?_
  rintro e w2 ⟨hret, hb2⟩
  have HB2 : Hid (Below w.heap.size w w2) := chain HB.out hb2
  have HK2 : Hid (Blk w2 w.heap.size #[.slice none 0 0, .slice none 0 0, .slice none 0 0, .slice none 0 0] 26) := HK.out.keep hb2
  have HZ2 : Hid (w.heap.size + 1 ≤ w2.heap.size) := by show _ ≤ _; have := hb2.size; have := HS.out; omega
  clear hsi hb2
  rcases hret with ⟨k, hk, rfl⟩ | ⟨gs, bI, cI, s1, s2, s3, s4, k1, k2, k3, k4, hgl, hr1, hr2, rfl, hO⟩
  · have HR : Hid (∀ w', RIn xs w.heap.size w (.returned (.tuple #[zRow, .iface 42 (.agg #[.int .i64 k])])) w') := fun w' => .line k hk rfl
    have hC := (put4_blk HK2.out (.slice none 0 0) (.slice none 0 0) (.slice none 0 0) (.slice none 0 0)).alloc (.cells #[.slice none 0 0, .slice none 0 0, .slice none 0 0, .slice none 0 0] 26)
    have hB3 := (put4_below HB2.out (Nat.le_refl _) (.slice none 0 0) (.slice none 0 0) (.slice none 0 0) (.slice none 0 0)).alloc (by simp [put4]; have := HZ2.out; omega) (.cells #[.slice none 0 0, .slice none 0 0, .slice none 0 0, .slice none 0 0] 26)
    have t0 := HK2.out.cell 0
    have t1 := HK2.out.cell 1
    have t2 := HK2.out.cell 2
    have t3 := HK2.out.cell 3
    have f0 := HK2.out.free 0
    have f1 := HK2.out.free 1
    have f2 := HK2.out.free 2
    have f3 := HK2.out.free 3
    have c0 := hC.cell 0
    have c1 := hC.cell 1
    have c2 := hC.cell 2
    have c3 := hC.cell 3
    unfold put4 at c0 c1 c2 c3 hB3
    simp only [List.getElem?_toArray, List.getElem?_cons_succ, List.getElem?_cons_zero] at c0 c1 c2 c3 t0 t1 t2 t3
    have HBf : Hid _ := hB3
    have hltz : w.heap.size < w2.heap.size := HK2.out.lt
    clear hk hC hB3
    unfold zRow
    go_wp2
    refine bodyPost_ret (v := .tuple #[zRow, .iface 42 (.agg #[.int .i64 k])]) ?_ rfl ⟨HR.out _, HBf.out⟩
    simp [results, Tryz.results14, go_sem, c0, c1, c2, c3, zRow]
  · have hal : Below w2.heap.size w2 (w2.alloc (.cells #[.slice s1 gs.length k1, .slice s2 gs.length k2, .slice s3 gs.length k3, .slice s4 gs.length k4] 26)) := (Below.refl _ _).alloc (Nat.le_refl _) _
    have hok := implRowOk_any s1 s2 s3 s4 k1 k2 k3 k4 (fun j => some ⟨bI j, 0, none⟩) cI (rowsOf gs) (w2.alloc (.cells #[.slice s1 gs.length k1, .slice s2 gs.length k2, .slice s3 gs.length k3, .slice s4 gs.length k4] 26)) (rows_small (by omega)) ((hO.at).keep hal)
    have hbk := Blk.new w2 #[.slice s1 gs.length k1, .slice s2 gs.length k2, .slice s3 gs.length k3, .slice s4 gs.length k4] 26
    have HO3 : Hid (Ow W.heap.size gs bI cI (.slice s1 gs.length k1) (.slice s2 gs.length k2) (.slice s3 gs.length k3) (.slice s4 gs.length k4) (w2.alloc (.cells #[.slice s1 gs.length k1, .slice s2 gs.length k2, .slice s3 gs.length k3, .slice s4 gs.length k4] 26))) := hO.keep hal
    have HB3 : Hid (Below w.heap.size w (w2.alloc (.cells #[.slice s1 gs.length k1, .slice s2 gs.length k2, .slice s3 gs.length k3, .slice s4 gs.length k4] 26))) := chain HB2.out hal
    have HK3 : Hid (Blk (w2.alloc (.cells #[.slice s1 gs.length k1, .slice s2 gs.length k2, .slice s3 gs.length k3, .slice s4 gs.length k4] 26)) w.heap.size #[.slice none 0 0, .slice none 0 0, .slice none 0 0, .slice none 0 0] 26) := HK2.out.keep hal
    have HBK : Hid (Blk (w2.alloc (.cells #[.slice s1 gs.length k1, .slice s2 gs.length k2, .slice s3 gs.length k3, .slice s4 gs.length k4] 26)) w2.heap.size #[.slice s1 gs.length k1, .slice s2 gs.length k2, .slice s3 gs.length k3, .slice s4 gs.length k4] 26) := hbk
    have HRD : Hid (Reads (linesA [] xs).1 gs ∧ (linesA [] xs).2 = []) := ⟨hr1, hr2⟩
    replace hok : Calls Tryz.prog 33 #[.agg #[.slice s1 gs.length k1, .slice s2 gs.length k2, .slice s3 gs.length k3, .slice s4 gs.length k4]] (w2.alloc (.cells #[.slice s1 gs.length k1, .slice s2 gs.length k2, .slice s3 gs.length k3, .slice s4 gs.length k4] 26)) _ := hok
    clear hO hal hbk hr1 hr2
    go_wp2_with fail
    generalize (w2.alloc (.cells #[.slice s1 gs.length k1, .slice s2 gs.length k2, .slice s3 gs.length k3, .slice s4 gs.length k4] 26)) = W3 at *
    refine hok.mono ?_
    rintro e w4 ⟨⟨r, rfl, hr⟩, hb4⟩
    have HB4 : Hid (Below w.heap.size w w4) := chain HB3.out hb4
    have HK4 : Hid (Blk w4 w.heap.size #[.slice none 0 0, .slice none 0 0, .slice none 0 0, .slice none 0 0] 26) := HK3.out.keep hb4
    have HO4 : Hid (Ow W.heap.size gs bI cI (.slice s1 gs.length k1) (.slice s2 gs.length k2) (.slice s3 gs.length k3) (.slice s4 gs.length k4) w4) := HO3.out.keep hb4
    have hbk4 := HBK.out.keep hb4
    have t0 := HK4.out.cell 0
    have t1 := HK4.out.cell 1
    have t2 := HK4.out.cell 2
    have t3 := HK4.out.cell 3
    have f0 := HK4.out.free 0
    have f1 := HK4.out.free 1
    have f2 := HK4.out.free 2
    have f3 := HK4.out.free 3
    simp only [List.getElem?_toArray, List.getElem?_cons_succ, List.getElem?_cons_zero] at t0 t1 t2 t3
    by_cases hr0 : r = 0
    · subst hr0
      have z0 : ((0 : Int) != 0) = false := by simp
      have HT : Hid (IsTold xs 0 0 gs) := ok_row hx1 HRD.out.1 HRD.out.2 hr.rt
      have r0 := hbk4.cell 0
      have r1 := hbk4.cell 1
      have r2 := hbk4.cell 2
      have r3 := hbk4.cell 3
      simp only [List.getElem?_toArray, List.getElem?_cons_succ, List.getElem?_cons_zero] at r0 r1 r2 r3
      have hC := put4_blk HK4.out (.slice s1 gs.length k1) (.slice s2 gs.length k2) (.slice s3 gs.length k3) (.slice s4 gs.length k4)
      have hBf := put4_below HB4.out (Nat.le_refl _) (.slice s1 gs.length k1) (.slice s2 gs.length k2) (.slice s3 gs.length k3) (.slice s4 gs.length k4)
      have hOf := (put4_ow HO4.out (T := w.heap.size) (by have := HS.out; omega) (.slice s1 gs.length k1) (.slice s2 gs.length k2) (.slice s3 gs.length k3) (.slice s4 gs.length k4)).low (lo := w.heap.size) (by have := HS.out; omega)
      have c0 := hC.cell 0
      have c1 := hC.cell 1
      have c2 := hC.cell 2
      have c3 := hC.cell 3
      unfold put4 at c0 c1 c2 c3 hBf hOf
      simp only [List.getElem?_toArray, List.getElem?_cons_succ, List.getElem?_cons_zero] at c0 c1 c2 c3
      have HBf : Hid _ := hBf
      have HOf : Hid _ := hOf
      clear hC hBf hOf hbk4 hb4 hr hok
      go_wp2
      refine bodyPost_ret (v := .tuple #[.agg #[.slice s1 gs.length k1, .slice s2 gs.length k2, .slice s3 gs.length k3, .slice s4 gs.length k4], .nilIface]) ?_ rfl ⟨.row gs bI cI s1 s2 s3 s4 k1 k2 k3 k4 HT.out rfl HOf.out, HBf.out⟩
      simp [results, Tryz.results14, go_sem, c0, c1, c2, c3]
    · have z0 : (r != 0) = true := by rw [bne_iff_ne]; exact hr0
      have HT : Hid (IsTold xs 3 0 []) := ok_wrong hx1 HRD.out.1 HRD.out.2 (fun u => hr0 (hr.zero u))
      obtain ⟨a, b, -, hbq, -⟩ := HL.out.er
      have hb' := cell_keep hbq HB4.out
      have hb'' := cell_keep hbq (HB4.out.setCell (p := ⟨w.heap.size, 0, none⟩) (Nat.le_refl _) (.slice none 0 0))
      have HR : Hid (∀ w', RIn xs w.heap.size w (.returned (.tuple #[zRow, .iface 174 (.pointer (some b))])) w') := fun w' => .wrong b HT.out hbq rfl
      have hC := put4_blk HK4.out (.slice none 0 0) (.slice none 0 0) (.slice none 0 0) (.slice none 0 0)
      have hBf := put4_below HB4.out (Nat.le_refl _) (.slice none 0 0) (.slice none 0 0) (.slice none 0 0) (.slice none 0 0)
      have c0 := hC.cell 0
      have c1 := hC.cell 1
      have c2 := hC.cell 2
      have c3 := hC.cell 3
      unfold put4 at c0 c1 c2 c3 hBf
      simp only [List.getElem?_toArray, List.getElem?_cons_succ, List.getElem?_cons_zero] at c0 c1 c2 c3
      have HBf : Hid _ := hBf
      clear hC hBf hbk4 hb4 hr hok hr0 hbq
      go_wp2_with fail
      go_region
      all_goals
        go_wp2
        refine bodyPost_ret (v := .tuple #[zRow, .iface 174 (.pointer (some b))]) ?_ rfl ⟨HR.out _, HBf.out.drew⟩
        simp [results, Tryz.results14, go_sem, c0, c1, c2, c3, zRow]

end Go.Proofs.YtachkoledebanabGreatDoor
