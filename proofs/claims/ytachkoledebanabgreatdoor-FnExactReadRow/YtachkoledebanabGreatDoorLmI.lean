/-
  The program's reading of the lamps' word.
-/
import Derived.Test.YtachkoledebanabGreatDoorWofEtc
namespace Go.Proofs.YtachkoledebanabGreatDoor
open Go.RowKit

def lampsW : List UInt8 := [108, 97, 109, 112, 115]
def lmV (f : Nat → Bool) : List Value := (List.range 4).map fun a => .bool (f a)
def LampOk (lo : Nat) (ws ws' : List (List UInt8)) (v : Value) (ok : Bool) (w' : World) : Prop :=
  (ok = true → ∃ (f : Nat → Bool) (b : Nat), v = .slice (some ⟨b, 0, none⟩) 4 4 ∧ lo ≤ b ∧ w'.ownsRow lo 4 1 v 4 (lmV f) ∧ (∀ a, 4 ≤ a → f a = false) ∧ ws = lampsW :: lampTxt f 4 :: ws') ∧
  (ok = false → ∀ f r, ws ≠ lampsW :: lampTxt f 4 :: r)
def RetLamps (lo bl : Nat) (ws : List (List UInt8)) (e : Ending) (w' : World) : Prop := ∃ v ok ws', e = .returned (.tuple #[v, .bool ok]) ∧ LampOk lo ws ws' v ok w' ∧ St w' bl ws' ∧ ∀ y ∈ ws', y ∈ ws
theorem RetLamps.mk {lo bl : Nat} {ws : List (List UInt8)} {e : Ending} {w' : World} (v : Value) (ok : Bool) (ws' : List (List UInt8)) (h : e = .returned (.tuple #[v, .bool ok])) (k : LampOk lo ws ws' v ok w') (l : St w' bl ws') (m : ∀ y ∈ ws', y ∈ ws) : RetLamps lo bl ws e w' := ⟨v, ok, ws', h, k, l, m⟩

/-- what the signs say -/
def sOf (y : List UInt8) (j : Nat) : Bool := decide (j < 4) && (((y.getD j 0).toNat : Int) == sgi true j)
theorem lampTxt_len (f : Nat → Bool) : (lampTxt f 4).length = 4 := by rw [lampSg4]; rfl
theorem sOf_lamp {f : Nat → Bool} {j : Nat} (hj : j < 4) : sOf (lampTxt f 4) j = f j := by
  have hg : (lampTxt f 4).getD j 0 = sgb f j := by
    rw [lampSg4]
    obtain rfl | rfl | rfl | rfl : j = 0 ∨ j = 1 ∨ j = 2 ∨ j = 3 := by omega
    all_goals rfl
  unfold sOf
  rw [hg, sgb_nat f (by omega)]
  unfold sgi
  cases f j
  · simp; omega
  · simp; omega
theorem lampTxt_same {f g : Nat → Bool} (h : ∀ j, j < 4 → f j = g j) : lampTxt f 4 = lampTxt g 4 := by
  rw [lampSg4, lampSg4]
  unfold sgb
  rw [h 0 (by omega), h 1 (by omega), h 2 (by omega), h 3 (by omega)]
/-- a row of four is a list of four -/
theorem owns_row4 {w : World} {lo b : Nat} {f : Nat → Bool} (hl : lo ≤ b) (h : w.rowIs b 4 4 (fun j => .bool (f j))) : w.ownsRow lo 4 1 (.slice (some ⟨b, 0, none⟩) 4 4) 4 (lmV f) := by
  obtain ⟨c, hc, hsz, hf⟩ := h
  refine ⟨by simp [lmV], Or.inr ⟨b, 4, c, rfl, hl, hc, Nat.le_refl _, by unfold maxLen; omega, by omega, ?_⟩⟩
  apply List.ext_getElem?
  intro i
  by_cases hi : i < 4
  · rw [List.getElem?_take, if_pos (by omega), Array.getElem?_toList, hf i hi]
    simp [lmV, hi]
  · rw [List.getElem?_eq_none (by simp; omega), List.getElem?_eq_none (by simp [lmV]; omega)]
theorem owns_only {w w' : World} {lo hi base e s n : Nat} {v : Value} {xs : List Value} (h : w.ownsRow base e s v n xs) (ho : Only lo hi w w') (hd : hi ≤ base) : w'.ownsRow base e s v n xs := by
  obtain ⟨q1, q2⟩ := h
  refine ⟨q1, ?_⟩
  rcases q2 with q2 | ⟨gb, cap, cur, e1, e2, e3, e4⟩
  · exact Or.inl q2
  · have hlt : gb < w.heap.size := by
      rcases Nat.lt_or_ge gb w.heap.size with u | u
      · exact u
      · rw [Array.getElem?_eq_none u] at e3; cases e3
    exact Or.inr ⟨gb, cap, cur, e1, e2, by rw [ho.block gb hlt (Or.inr (by omega))]; exact e3, e4⟩

set_option maxHeartbeats 4000000 in
theorem lampsIn_any (w0 : World) (L : Laid w0) (ws : List (List UInt8)) (w : World) (hb : Below w0.heap.size w0 w) (h : St w w0.heap.size ws) :
    Calls Tryz.prog 75 #[wfn w0.heap.size] w fun e w' => RetLamps w.heap.size w0.heap.size ws e w' ∧ Only w0.heap.size (w0.heap.size + 2) w w' := by
  have hmk := run_make_row' (P := Tryz.prog) 23 4 (.bool false) 1 Tryz.uBools Tryz.iBool rfl .i64 .i64 4 (by omega) (by omega)
  replace hmk := fun W => hmk W
  rw [show ((4 : Nat) : Int) = 4 from rfl] at hmk
  have hwd := word_any w0.heap.size ws w h (L.keep hb).max
  have hlt0 := h.lt
  have HL : Hid (Laid w0) := L
  have HB : Hid (Below w0.heap.size w0 w) := hb
  unfold wfn
  go_enter Tryz.func75, Tryz.ntmps75
  go_wp2_with fail
  refine hwd.mono ?_
  rintro e w2 ⟨rfl, h2, ho, hs⟩
  obtain ⟨x, hx0⟩ : ∃ x, nw ws = x := ⟨_, rfl⟩
  have HX : Hid (nw ws = x) := hx0
  have HO : Hid (Only w0.heap.size (w0.heap.size + 2) w w2) := ho
  rw [hx0]
  clear hwd h hx0 L hb ho
  by_cases hy : x = [108, 97, 109, 112, 115]
  case neg =>
    have z2 : ((bs x).toList == [108, 97, 109, 112, 115]) = false := by
      rw [bs_list, beq_eq_false_iff_ne]; exact hy
    have HN : Hid (∀ w', LampOk w.heap.size ws (nr ws) (.slice none 0 0) false w') := fun w' => ⟨fun e => (by cases e), fun _ f r q => by
      rw [q] at HX
      exact hy (show x = _ from HX.out.symm)⟩
    clear hy hmk
    go_wp2
    go_ret2
    exact ⟨RetLamps.mk _ _ _ rfl (HN.out _) h2 (fun y hy => nr_sub hy), HO.out⟩
  have z2 : ((bs x).toList == [108, 97, 109, 112, 115]) = true := by
    rw [bs_list, beq_iff_eq]; exact hy
  have HE : Hid (ws = lampsW :: nr ws) := by rw [hy] at HX; exact nw_eq (x := lampsW) HX.out (by simp [lampsW])
  have hwd := word_any w0.heap.size (nr ws) w2 h2 (HL.out.keep (low_only HB.out HO.out)).max
  clear hy h2
  go_wp2_with fail
  refine hwd.mono ?_
  rintro e w3 ⟨rfl, h3, ho3, hs3⟩
  obtain ⟨y, hy0⟩ : ∃ y, nw (nr ws) = y := ⟨_, rfl⟩
  have HY : Hid (nw (nr ws) = y) := hy0
  rw [hy0]
  have HO3 : Hid (Only w0.heap.size (w0.heap.size + 2) w w3) := HO.out.trans ho3
  have HS30 : Hid (w3.heap.size = w.heap.size) := by show _ = _; omega
  have hysz := bs_size y
  clear hwd hy0 ho3 hs3 z2 hs
  by_cases hy4 : y.length = 4
  case neg =>
    have z4 : (((bs y).size : Int) == 4) = false := by rw [beq_eq_false_iff_ne, hysz]; omega
    have z5 : ((y.length : Int) == 4) = false := by rw [beq_eq_false_iff_ne]; omega
    have HN : Hid (∀ w', LampOk w.heap.size ws (nr (nr ws)) (.slice none 0 0) false w') := fun w' => ⟨fun e => (by cases e), fun _ f r q => by
      have e1 : nr ws = lampTxt f 4 :: r := by rw [q]; rfl
      have e2 := HY.out
      rw [e1] at e2
      exact hy4 (by rw [← show lampTxt f 4 = y from e2]; exact lampTxt_len f)⟩
    clear hmk
    go_wp2
    go_ret2
    exact ⟨RetLamps.mk _ _ _ rfl (HN.out _) h3 (fun y hy => nr_sub (nr_sub hy)), HO3.out⟩
  have z4 : (((bs y).size : Int) == 4) = true := by rw [beq_iff_eq, hysz]; omega
  rw [hy4] at hysz
  go_wp2
  obtain ⟨W, hW⟩ : ∃ W, W = w3.alloc (.cells (madeCells #[.bool false] 4) 4) := ⟨_, rfl⟩
  have r2 : W.rowIs w3.heap.size 4 4 (fun _ => .bool false) := by
    subst hW
    exact World.rowIs_made w3 (.bool false) 4 4
  have bW : Below w3.heap.size w3 W := by subst hW; exact (Below.refl _ _).alloc (Nat.le_refl _) _
  rw [← hW]
  have hr0 : W.rowIs w3.heap.size 4 4 (fun j => if j < 0 then .bool (sOf y j) else .bool false) := r2.congr (fun i _ => by simp)
  clear hmk hW r2 z4
  go_loopw [18] (fun t wr => ∃ q : Nat, q ≤ 4 ∧ t = .int .i64 q ∧ wr.rowIs w3.heap.size 4 4 (fun j => if j < q then .bool (sOf y j) else .bool false) ∧ Below w3.heap.size w3 wr) (fun t _ => 4 - (intOf t).toNat)
  case atStart => exact ⟨0, by omega, rfl, hr0, bW⟩
  case round =>
    clear hr0 bW
    obtain ⟨q, hq, rfl, hrow, hB⟩ := hrel
    by_cases hlt : q < 4
    · have hcell := hrow.cell hlt
      have hfz := hrow.frozen q
      obtain ⟨c, hc⟩ : ∃ c, c = y.getD q 0 := ⟨_, rfl⟩
      have hg : ∀ V, _ := fun V => idx_bs y q (by omega) V
      rw [← hc] at hg
      have HRw : Hid _ := row_step (f := fun j => .bool (sOf y j)) hrow
      have HBs : Hid _ := hB.setCell (p := ⟨w3.heap.size, q, none⟩) (Nat.le_refl _) (.bool (sOf y q))
      have HS : Hid (sOf y q = ((c.toNat : Int) == sgi true q)) := by show _ = _; unfold sOf; rw [decide_eq_true hlt, ← hc]; rfl
      have hsi : sgi true q = 48 + q := rfl
      clear hrow hB hsi hc
      go_wp2_with fail
      go_region_with (go_at_call 88; refine (lampSign_any q true _ (by omega)).mono ?_; rintro e w' ⟨rfl, rfl⟩)
      all_goals
        rw [← HS.out]
        go_wp2
        go_roundw
        case rel => exact ⟨q + 1, by omega, by go_num, HRw.out, HBs.out.drew⟩
        case measure => simp [intOf]; omega
    · obtain rfl : q = 4 := by omega
      have hrow' : wr.rowIs w3.heap.size 4 4 (fun j => .bool (sOf y j)) := hrow.congr (fun i hi => by rw [if_pos hi])
      have hlw := lampsWord_any (some ⟨w3.heap.size, 0, none⟩) 4 (sOf y) wr (SlAt.ofRow hrow')
      have HOr : Hid (Only w0.heap.size (w0.heap.size + 2) w wr) := HO3.out.trans (Only.ofBelow hB)
      have h4 := h3.keep hB
      have hown := owns_row4 (lo := w.heap.size) (by have := HS30.out; omega) hrow'
      clear hrow hrow'
      go_wp2_with fail
      refine hlw.mono ?_
      rintro e w5 ⟨rfl, hb5⟩
      have h5 := h4.keep hb5
      have hO5 : Only w0.heap.size (w0.heap.size + 2) w w5 := HOr.out.trans (Only.ofBelow hb5)
      have hown5 := owns_only hown (Only.ofBelow (lo := 0) (hi := 0) hb5) (by omega)
      have e2 : ∀ f r, ws = lampsW :: lampTxt f 4 :: r → y = lampTxt f 4 := fun f r q => by
        have e1 : nr ws = lampTxt f 4 :: r := by rw [q]; rfl
        have e2 := HY.out
        rw [e1] at e2
        exact (show lampTxt f 4 = y from e2).symm
      have HN : Hid (LampOk w.heap.size ws (nr (nr ws)) (.slice (some ⟨w3.heap.size, 0, none⟩) 4 4) (decide (lampTxt (sOf y) 4 = y)) w5) := by
        refine ⟨fun e => ⟨sOf y, w3.heap.size, rfl, by have := HS30.out; omega, hown5, fun a ha => by unfold sOf; rw [decide_eq_false (by omega)]; rfl, ?_⟩, fun e f r q => ?_⟩
        · have e' : lampTxt (sOf y) 4 = y := by simpa using e
          rw [e']
          have e3 : nr ws = y :: nr (nr ws) := nw_eq HY.out (fun u => by rw [u] at hy4; simp at hy4)
          rw [← e3]
          exact HE.out
        · have e' : lampTxt (sOf y) 4 ≠ y := by simpa using e
          have e3 := e2 f r q
          exact e' (by rw [e3]; exact lampTxt_same (fun j hj => sOf_lamp hj))
      have z5 : ((bs (lampTxt (sOf y) 4)).toList == (bs y).toList) = decide (lampTxt (sOf y) 4 = y) := by
        rw [bs_list, bs_list]; by_cases e : lampTxt (sOf y) 4 = y <;> simp [e]
      clear hown hown5 hb5 h4 hlw e2
      generalize decide (lampTxt (sOf y) 4 = y) = ok at *
      go_wp2
      go_ret2
      exact ⟨RetLamps.mk _ _ _ rfl HN.out h5 (fun y hy => nr_sub (nr_sub hy)), hO5⟩

end Go.Proofs.YtachkoledebanabGreatDoor
