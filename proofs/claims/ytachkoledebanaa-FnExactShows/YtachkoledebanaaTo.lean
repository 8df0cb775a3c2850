/-
  toIntS, toBoolS: a slice copied into new memory.
-/
import Derived.Test.YtachkoledebanaaBase
namespace Go.Proofs.Ytachkoledebanaa
open Go.RowKit

theorem row_step {w : World} {b t n k : Nat} {z : Value} {f : Nat → Value} (h : w.rowIs b t n (fun j => if j < k then f j else z)) : (w.setCell ⟨b, k, none⟩ (f k)).rowIs b t n (fun j => if j < k + 1 then f j else z) := by
  refine (h.set k (f k)).congr fun i _ => ?_
  by_cases e : i = k
  · subst e; simp
  · by_cases g : i < k
    · rw [if_neg e, if_pos g, if_pos (by omega)]
    · rw [if_neg e, if_neg g, if_neg (by omega)]

set_option maxHeartbeats 400000 in
theorem toIntS_any (ao : Option Addr) (n cap : Nat) (f : Nat → Int) (w : World) (hn : n ≤ 1048576) (h : SlAt w ao n (fun k => .int .i64 (f k))) :
    Calls Try.prog 66 #[.slice ao n cap] w fun e w' => e = .returned (.slice (some ⟨w.heap.size, 0, none⟩) n n) ∧
      w'.rowIs w.heap.size 3 n (fun k => .int .i64 (f k)) ∧ Below w.heap.size w w' ∧ w'.heap.size = w.heap.size + 1 := by
  have hmk := run_make_row' (P := Try.prog) 23 3 (.int .i64 0) 8 Try.uInts Try.iInt rfl .i64 .i64 n (by omega) (by omega)
  go_enter Try.func66, Try.ntmps66
  go_wp2
  go_loopw [4] (fun i wr => ∃ k : Nat, k ≤ n ∧ i = .int .i64 k ∧ wr.rowIs w.heap.size 3 n (fun j => if j < k then .int .i64 (f j) else .int .i64 0) ∧ Below w.heap.size w wr ∧ wr.heap.size = w.heap.size + 1) (fun i _ => n - (intOf i).toNat)
  case atStart => exact ⟨0, Nat.zero_le _, rfl, (World.rowIs_made _ _ _ _).congr (fun i _ => by simp), (Below.refl _ _).alloc (Nat.le_refl _) _, by simp⟩
  case round =>
    obtain ⟨k, hk, rfl, hrow, hb, hsz⟩ := hrel
    by_cases hlt : k < n
    · obtain ⟨b, o, rfl, hc⟩ := h k hlt
      have hbs := block_lt_of_cell hc
      have hc' : wr.cell? ⟨b, o + k, none⟩ = some (.int .i64 (f k)) := (hb.cell (p := ⟨b, o + k, none⟩) hbs).trans hc
      have hcell := hrow.cell hlt
      have hfz := hrow.frozen k
      have R := row_step hrow
      have Rb := hb.setCell (p := ⟨w.heap.size, k, none⟩) (Nat.le_refl _) (.int .i64 (f k))
      have HR : Hid _ := R
      have HB : Hid _ := Rb
      have HS : Hid (wr.heap.size = w.heap.size + 1) := hsz
      clear R Rb hrow hb h hc hsz
      go_wp2
      go_roundw
      case rel => exact ⟨k + 1, by omega, by go_num, HR.out, HB.out, by simpa using HS.out⟩
      case measure => simp [intOf]; omega
    · go_wp2
      go_ret
      exact ⟨rfl, hrow.congr (fun i hi => by rw [if_pos (by omega)]), hb, hsz⟩

set_option maxHeartbeats 400000 in
theorem toBoolS_any (ao : Option Addr) (n cap : Nat) (f : Nat → Bool) (w : World) (hn : n ≤ 1048576) (h : SlAt w ao n (fun k => .bool (f k))) :
    Calls Try.prog 67 #[.slice ao n cap] w fun e w' => e = .returned (.slice (some ⟨w.heap.size, 0, none⟩) n n) ∧
      w'.rowIs w.heap.size 4 n (fun k => .bool (f k)) ∧ Below w.heap.size w w' ∧ w'.heap.size = w.heap.size + 1 := by
  have hmk := run_make_row' (P := Try.prog) 24 4 (.bool false) 1 Try.uBools Try.iBool rfl .i64 .i64 n (by omega) (by omega)
  go_enter Try.func67, Try.ntmps67
  go_wp2
  go_loopw [4] (fun i wr => ∃ k : Nat, k ≤ n ∧ i = .int .i64 k ∧ wr.rowIs w.heap.size 4 n (fun j => if j < k then .bool (f j) else .bool false) ∧ Below w.heap.size w wr ∧ wr.heap.size = w.heap.size + 1) (fun i _ => n - (intOf i).toNat)
  case atStart => exact ⟨0, Nat.zero_le _, rfl, (World.rowIs_made _ _ _ _).congr (fun i _ => by simp), (Below.refl _ _).alloc (Nat.le_refl _) _, by simp⟩
  case round =>
    obtain ⟨k, hk, rfl, hrow, hb, hsz⟩ := hrel
    by_cases hlt : k < n
    · obtain ⟨b, o, rfl, hc⟩ := h k hlt
      have hbs := block_lt_of_cell hc
      have hc' : wr.cell? ⟨b, o + k, none⟩ = some (.bool (f k)) := (hb.cell (p := ⟨b, o + k, none⟩) hbs).trans hc
      have hcell := hrow.cell hlt
      have hfz := hrow.frozen k
      have R := row_step hrow
      have Rb := hb.setCell (p := ⟨w.heap.size, k, none⟩) (Nat.le_refl _) (.bool (f k))
      have HR : Hid _ := R
      have HB : Hid _ := Rb
      have HS : Hid (wr.heap.size = w.heap.size + 1) := hsz
      clear R Rb hrow hb h hc hsz
      go_wp2
      go_roundw
      case rel => exact ⟨k + 1, by omega, by go_num, HR.out, HB.out, by simpa using HS.out⟩
      case measure => simp [intOf]; omega
    · go_wp2
      go_ret
      exact ⟨rfl, hrow.congr (fun i hi => by rw [if_pos (by omega)]), hb, hsz⟩


set_option maxHeartbeats 400000 in
theorem toBoolSS_any (ao : Option Addr) (n cap : Nat) (A : Nat → Option Addr) (L C : Nat → Nat) (g : Nat → Nat → Bool) (w : World) (hn : n ≤ 1048576) (hL : ∀ i, i < n → L i ≤ 1048576)
    (h : SlAt w ao n (fun i => .slice (A i) (L i) (C i))) (hr : ∀ i, i < n → SlAt w (A i) (L i) (fun j => .bool (g i j))) :
    Calls Try.prog 68 #[.slice ao n cap] w fun e w' => e = .returned (.slice (some ⟨w.heap.size, 0, none⟩) n n) ∧
      w'.rowIs w.heap.size 24 n (fun i => .slice (some ⟨w.heap.size + 1 + i, 0, none⟩) (L i) (L i)) ∧
      (∀ i, i < n → w'.rowIs (w.heap.size + 1 + i) 4 (L i) (fun j => .bool (g i j))) ∧ Below w.heap.size w w' ∧ w'.heap.size = w.heap.size + 1 + n := by
  have hmk := run_make_row' (P := Try.prog) 25 24 (.slice none 0 0) 24 Try.uBoolss Try.iBools rfl .i64 .i64 n (by omega) (by omega)
  go_enter Try.func68, Try.ntmps68
  go_wp2
  go_loopw [4] (fun i wr => ∃ k : Nat, k ≤ n ∧ i = .int .i64 k ∧
      wr.rowIs w.heap.size 24 n (fun j => if j < k then .slice (some ⟨w.heap.size + 1 + j, 0, none⟩) (L j) (L j) else .slice none 0 0) ∧
      (∀ j, j < k → wr.rowIs (w.heap.size + 1 + j) 4 (L j) (fun q => .bool (g j q))) ∧ Below w.heap.size w wr ∧ wr.heap.size = w.heap.size + 1 + k) (fun i _ => n - (intOf i).toNat)
  case atStart => exact ⟨0, Nat.zero_le _, rfl, (World.rowIs_made _ _ _ _).congr (fun i _ => by simp), fun j hj => absurd hj (Nat.not_lt_zero _), (Below.refl _ _).alloc (Nat.le_refl _) _, by simp⟩
  case round =>
    obtain ⟨k, hk, rfl, hrow, hfam, hb, hsz⟩ := hrel
    by_cases hlt : k < n
    · obtain ⟨b, o, rfl, hc⟩ := h k hlt
      have hbs := block_lt_of_cell hc
      have hc' : wr.cell? ⟨b, o + k, none⟩ = some (.slice (A k) (L k) (C k)) := (hb.cell (p := ⟨b, o + k, none⟩) hbs).trans hc
      have hin : SlAt wr (A k) (L k) (fun j => .bool (g k j)) := (hr k hlt).keep hb
      have hLk := hL k hlt
      clear h hc
      go_wp2_with fail
      refine (toBoolS_any (A k) (L k) (C k) (g k) _ hLk hin).mono ?_
      rintro e w1 ⟨rfl, hnew, hb1, hsz1⟩
      have hrow1 : w1.rowIs w.heap.size 24 n (fun j => if j < k then .slice (some ⟨w.heap.size + 1 + j, 0, none⟩) (L j) (L j) else .slice none 0 0) := rowIs_below hrow hb1 (by omega)
      have hcell := hrow1.cell hlt
      have hfz := hrow1.frozen k
      rw [hsz] at hnew
      have R := row_step (f := fun j => .slice (some ⟨w.heap.size + 1 + j, 0, none⟩) (L j) (L j)) hrow1
      have HR : Hid _ := R
      have HB : Hid _ := (hb.trans (hb1.mono (show w.heap.size ≤ wr.heap.size by omega))).setCell (p := ⟨w.heap.size, k, none⟩) (Nat.le_refl _) (.slice (some ⟨w.heap.size + 1 + k, 0, none⟩) (L k) (L k))
      have HF : Hid (∀ j, j < k + 1 → (w1.setCell ⟨w.heap.size, k, none⟩ (.slice (some ⟨w.heap.size + 1 + k, 0, none⟩) (L k) (L k))).rowIs (w.heap.size + 1 + j) 4 (L j) (fun q => .bool (g j q))) := by
        intro j hj
        refine World.rowIs.setOther ?_ (by show w.heap.size + 1 + j ≠ w.heap.size; omega) _
        by_cases e : j = k
        · subst e; exact hnew
        · exact rowIs_below (hfam j (by omega)) hb1 (by omega)
      have HS : Hid (w1.heap.size = w.heap.size + 1 + (k + 1)) := by show _ = _; omega
      have hwr : wr.heap.size = w.heap.size + 1 + k := hsz
      clear R hrow hrow1 hfam hb hb1 hin hnew hsz1 hr hsz
      go_wp2
      go_roundw
      case rel => exact ⟨k + 1, by omega, by go_num, HR.out, HF.out, HB.out, by simpa using HS.out⟩
      case measure => simp [intOf]; omega
    · have e : k = n := by omega
      subst e
      go_wp2
      go_ret
      exact ⟨rfl, hrow.congr (fun i hi => by rw [if_pos (by omega)]), hfam, hb, hsz⟩

end Go.Proofs.Ytachkoledebanaa
