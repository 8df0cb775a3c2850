/-
  Rows: the document's; MadeLine.
-/
import Derived.Test.YtachkoledebanaaGreatDoorRows2
namespace Go.Proofs.YtachkoledebanaaGreatDoor
open Go.RowKit

/-- the bytes that came in -/
def CodeAt (w : World) (ca : Option Addr) (k : Code) : Prop := SlAt w ca k.n (fun i => .int .u8 (k.b i))

set_option maxHeartbeats 2000000 in
theorem rows_any (ca : Option Addr) (cc : Nat) (k : Code) (w : World) (hn : k.n ≤ 1048576) (hk : Bytes k) (h : CodeAt w ca k) :
    Calls Tryz.prog 4 #[.slice ca k.n cc] w fun e w' => RetRow e w.heap.size (drawn k) w' ∧ Below w.heap.size w w' := by
  have bs1 := Blk.new w #[.slice none 0 0, .slice none 0 0, .slice none 0 0, .slice none 0 0] 27
  have bl1 : Below w.heap.size w (w.alloc (.cells #[.slice none 0 0, .slice none 0 0, .slice none 0 0, .slice none 0 0] 27)) := (Below.refl _ _).alloc (Nat.le_refl _) _
  have hs1 : (w.alloc (.cells #[.slice none 0 0, .slice none 0 0, .slice none 0 0, .slice none 0 0] 27)).heap.size = w.heap.size + 1 := by simp
  have HS : Hid ((w.alloc (.cells #[.slice none 0 0, .slice none 0 0, .slice none 0 0, .slice none 0 0] 27)).heap.size = w.heap.size + 1) := hs1
  clear hs1
  go_enter Tryz.func4, Tryz.ntmps4
  go_wp2_with fail
  generalize (w.alloc (.cells #[.slice none 0 0, .slice none 0 0, .slice none 0 0, .slice none 0 0] 27)) = W1 at *
  have bs2 := Blk.new W1 #[.slice ca k.n cc, .int .i64 0, .int .u64 0] 39
  have bl2 : Below W1.heap.size W1 (W1.alloc (.cells #[.slice ca k.n cc, .int .i64 0, .int .u64 0] 39)) := (Below.refl _ _).alloc (Nat.le_refl _) _
  have hs2 : (W1.alloc (.cells #[.slice ca k.n cc, .int .i64 0, .int .u64 0] 39)).heap.size = w.heap.size + 2 := by simp [HS.out]
  have bs1' := bs1.keep bl2
  rw [HS.out] at bs2
  have hcd := h.keep (chain bl1 bl2)
  generalize (W1.alloc (.cells #[.slice ca k.n cc, .int .i64 0, .int .u64 0] 39)) = W2 at *
  have hlt : ∀ b o, ca = some ⟨b, o, none⟩ → 0 < k.n → b < w.heap.size := fun b o e h0 => by
    obtain ⟨b', o', e', hc⟩ := h 0 h0
    rw [e] at e'
    injection e' with e'
    injection e' with e1 _
    subst e1
    exact block_lt_of_cell hc
  have hcur : CurAt W2 (w.heap.size + 1) ca cc k ⟨0, 0⟩ := ⟨bs2, fun i hi => by
      obtain ⟨b, o, e, hc⟩ := hcd i hi
      exact ⟨b, o, e, by have := hlt b o e (by omega); omega, hc⟩, Int.le_refl _, by show (0 : Int) < 18446744073709551616; omega, hk⟩
  refine (row_any (w.heap.size + 1) ca cc k W2 hn hk (by omega) hcur (fun b o e h0 => by have := hlt b o e h0; omega)).mono ?_
  rintro e w3 ⟨⟨a1, a2, a3, a4, c1, c2, c3, c4, bI, rfl, hM⟩, hO⟩
  have bs3 := hO.blk bs1' (Or.inl (by omega))
  have y0 := bs3.cell 0
  have y1 := bs3.cell 1
  have y2 := bs3.cell 2
  have y3 := bs3.cell 3
  have g0 := bs3.free 0
  have g1 := bs3.free 1
  have g2 := bs3.free 2
  have g3 := bs3.free 3
  simp at y0 y1 y2 y3
  have HM : Hid (Made (w.heap.size + 2) (drawn k) a1 a2 a3 a4 bI w3) := by show Made _ _ _ _ _ _ _ _; rw [← hs2]; exact hM
  have HB : Hid (Below w.heap.size w w3) := (chain bl1 bl2).trans (hO.below (by omega) (by omega))
  have HF : Hid (Made w.heap.size (drawn k) a1 a2 a3 a4 bI ((((w3.setCell ⟨w.heap.size, 0, none⟩ (.slice a1 (drawn k).nN c1)).setCell ⟨w.heap.size, 1, none⟩ (.slice a2 (drawn k).nF c2)).setCell ⟨w.heap.size, 2, none⟩ (.slice a3 (drawn k).nO c3)).setCell ⟨w.heap.size, 3, none⟩ (.slice a4 (drawn k).nW c4))) := (((((HM.out.low (p := ⟨w.heap.size, 0, none⟩) (by show w.heap.size < w.heap.size + 2; omega) _).low (p := ⟨w.heap.size, 1, none⟩) (by show w.heap.size < w.heap.size + 2; omega) _).low (p := ⟨w.heap.size, 2, none⟩) (by show w.heap.size < w.heap.size + 2; omega) _).low (p := ⟨w.heap.size, 3, none⟩) (by show w.heap.size < w.heap.size + 2; omega) _)).wide (Nat.le_add_right _ _)
  have HBf : Hid (Below w.heap.size w ((((w3.setCell ⟨w.heap.size, 0, none⟩ (.slice a1 (drawn k).nN c1)).setCell ⟨w.heap.size, 1, none⟩ (.slice a2 (drawn k).nF c2)).setCell ⟨w.heap.size, 2, none⟩ (.slice a3 (drawn k).nO c3)).setCell ⟨w.heap.size, 3, none⟩ (.slice a4 (drawn k).nW c4))) := (((Below.setCell HB.out (Nat.le_refl _) _).setCell (Nat.le_refl _) _).setCell (Nat.le_refl _) _).setCell (Nat.le_refl _) _
  have hbf := (((bs3.set 0 (.slice a1 (drawn k).nN c1)).set 1 (.slice a2 (drawn k).nF c2)).set 2 (.slice a3 (drawn k).nO c3)).set 3 (.slice a4 (drawn k).nW c4)
  clear hM hO hcd hcur hlt h bs1 bs1' bs2 bl1 bl2 hs2 HM HB bs3
  go_wp2
  generalize ((((w3.setCell ⟨w.heap.size, 0, none⟩ (.slice a1 (drawn k).nN c1)).setCell ⟨w.heap.size, 1, none⟩ (.slice a2 (drawn k).nF c2)).setCell ⟨w.heap.size, 2, none⟩ (.slice a3 (drawn k).nO c3)).setCell ⟨w.heap.size, 3, none⟩ (.slice a4 (drawn k).nW c4)) = Wf at *
  have z0 := hbf.cell 0
  have z1 := hbf.cell 1
  have z2 := hbf.cell 2
  have z3 := hbf.cell 3
  simp at z0 z1 z2 z3
  exact bodyPost_ret (v := .agg #[.slice a1 (drawn k).nN c1, .slice a2 (drawn k).nF c2, .slice a3 (drawn k).nO c3, .slice a4 (drawn k).nW c4]) (by simp [results, Tryz.results4, go_sem, z0, z1, z2, z3]) rfl ⟨⟨a1, a2, a3, a4, c1, c2, c3, c4, bI, rfl, HF.out⟩, HBf.out⟩

end Go.Proofs.YtachkoledebanaaGreatDoor
