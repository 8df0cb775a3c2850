/-
  The program's words for a signal's state and its lamps.
-/
import Derived.Test.YtachkoledebanabDoorLne
import Derived.Test.YtachkoledebanabDoorBld
import Derived.Test.YtachkoledebanabDoorOwnT
namespace Go.Proofs.YtachkoledebanabDoor
open Go.RowKit

def openTxt (o : Bool) : List UInt8 := if o then [111, 112, 101, 110] else [115, 104, 117, 116]
theorem head_open (o : Bool) : headTxt o = openTxt o ++ [32, 108, 97, 109, 112, 115, 32] := rfl
theorem dec_one {n : Nat} (h : n < 10) : dec n = [UInt8.ofNat (48 + n)] := by
  unfold dec
  by_cases e : n = 0
  · subst e; rfl
  · rw [if_neg e, decP_pos (by omega), show n / 10 = 0 by omega, decP_zero]
    unfold dig
    rw [show n % 10 = n by omega]
    rfl
/-- a lamp's sign -/
def sgb (f : Nat → Bool) (j : Nat) : UInt8 := if f j then UInt8.ofNat (48 + j) else 45
theorem lampTxt4 (f : Nat → Bool) : lampTxt f 4 = [sgb f 0, sgb f 1, sgb f 2, sgb f 3] := by
  have k : ∀ j, j < 10 → (if f j then dec j else [45]) = [sgb f j] := by
    intro j hj
    unfold sgb
    split
    · exact dec_one hj
    · rfl
  simp only [lampTxt]
  rw [k 0 (by omega), k 1 (by omega), k 2 (by omega), k 3 (by omega)]
  rfl
def sgi (b : Bool) (q : Nat) : Int := if b then 48 + q else 45
theorem sgb_nat (f : Nat → Bool) {j : Nat} (h : j < 10) : ((sgb f j).toNat : Int) = sgi (f j) j := by
  unfold sgb sgi
  split
  · rw [UInt8.toNat_ofNat_of_lt' (show 48 + j < 256 by omega)]; omega
  · rfl

theorem openWord_any (o : Bool) (w : World) :
    Calls Tryd.prog 19 #[.bool o] w fun e w' => e = .returned (.string (bs (openTxt o))) ∧ w' = w := by
  go_enter Tryd.func19, Tryd.ntmps19
  cases o
  all_goals
    go_wp2
    go_ret
    exact ⟨rfl, rfl⟩
theorem lampSign_any (q : Nat) (b : Bool) (w : World) (hq : q < 10) :
    Calls Tryd.prog 32 #[.int .i64 q, .bool b] w fun e w' => e = .returned (.int .u8 (sgi b q)) ∧ w' = w := by
  go_enter Tryd.func32, Tryd.ntmps32
  cases b
  · go_wp2
    go_ret
    exact ⟨rfl, rfl⟩
  · go_wp2
    go_ret
    refine ⟨?_, rfl⟩
    unfold sgi
    rw [if_pos rfl]
    first | rfl | go_num

theorem Tryd.iByte : (Tryd.prog.info? 5).map (fun i => (i.zero, i.size, i.bytes)) = some (some (.int .u8 0), 1, 1) := by kernel_rfl
theorem conv_four (w : World) (b : Nat) (f : Nat → Bool) (h : w.rowIs b 5 4 (fun j => .int .u8 (sgi (f j) j))) : (convert 42 9 (.slice (some ⟨b, 0, none⟩) 4 4)).run Tryd.prog w = .ok (.string (bs (lampTxt f 4))) w := by
  rw [lampTxt4]
  refine run_convert_bytes_back (P := Tryd.prog) w 42 9 5 ⟨b, 0, none⟩ 4 [sgb f 0, sgb f 1, sgb f 2, sgb f 3] Tryd.underlying42 Tryd.underlying5 Tryd.underlying9 (fun j hj => ?_)
  have hj4 : j < 4 := by simpa using hj
  have h1 := h.cell hj4
  have h2 : w.cell? ((⟨b, 0, none⟩ : Addr).add j) = w.cell? ⟨b, j, none⟩ := by
    by_cases e : j = 0
    · subst e; rfl
    · simp [Addr.add, e]
  rw [h2, h1]
  have k : ∀ i, i < 4 → some (Value.int .u8 (sgi (f i) i)) = some (Value.int .u8 ((sgb f i).toNat : Int)) := fun i hi => by rw [sgb_nat f (by omega)]
  obtain rfl | rfl | rfl | rfl : j = 0 ∨ j = 1 ∨ j = 2 ∨ j = 3 := by omega
  · exact k 0 (by omega)
  · exact k 1 (by omega)
  · exact k 2 (by omega)
  · exact k 3 (by omega)

set_option maxHeartbeats 1000000 in
theorem lampsWord_any (ao : Option Addr) (cap : Nat) (f : Nat → Bool) (w : World) (h : SlAt w ao 4 (fun j => .bool (f j))) :
    Calls Tryd.prog 20 #[.slice ao 4 cap] w fun e w' => e = .returned (.string (bs (lampTxt f 4))) ∧ Below w.heap.size w w' := by
  have hmk := run_make_row' (P := Tryd.prog) 42 5 (.int .u8 0) 1 Tryd.underlying42 Tryd.iByte rfl .i64 .i64 4 (by omega) (by omega)
  replace hmk := fun W => hmk W
  rw [show ((4 : Nat) : Int) = 4 from rfl] at hmk
  go_enter Tryd.func20, Tryd.ntmps20
  go_wp2
  obtain ⟨W, hW⟩ : ∃ W, W = w.alloc (.cells (madeCells #[.int .u8 0] 4) 5) := ⟨_, rfl⟩
  have r2 : W.rowIs w.heap.size 5 4 (fun _ => .int .u8 0) := by
    subst hW
    exact World.rowIs_made w (.int .u8 0) 4 5
  have bW : Below w.heap.size w W := by subst hW; exact (Below.refl _ _).alloc (Nat.le_refl _) _
  have HH : Hid (SlAt w ao 4 (fun j => .bool (f j))) := h
  rw [← hW]
  clear h hmk hW
  go_loopw [11] (fun t wr => ∃ q : Nat, q ≤ 4 ∧ t = .int .i64 q ∧ wr.rowIs w.heap.size 5 4 (fun j => if j < q then .int .u8 (sgi (f j) j) else .int .u8 0) ∧ Below w.heap.size w wr) (fun t _ => 4 - (intOf t).toNat)
  case atStart => exact ⟨0, by omega, rfl, r2.congr (fun i _ => by simp), bW⟩
  case round =>
    clear r2 bW
    obtain ⟨q, hq, rfl, hrow, hB⟩ := hrel
    by_cases hlt : q < 4
    · obtain ⟨b, o, rfl, hc⟩ := (HH.out.keep hB) q hlt
      replace hc : wr.cell? ⟨b, o + q, none⟩ = some (.bool (f q)) := hc
      have hcell := hrow.cell hlt
      have hfz := hrow.frozen q
      have HRw : Hid _ := row_step (f := fun j => .int .u8 (sgi (f j) j)) hrow
      have HB : Hid _ := hB.setCell (p := ⟨w.heap.size, q, none⟩) (Nat.le_refl _) (.int .u8 (sgi (f q) q))
      clear hrow hB
      go_wp2_with fail
      refine (lampSign_any q (f q) wr (by omega)).mono ?_
      rintro e w' ⟨rfl, hw'⟩
      have hw' := hw'.symm
      subst hw'
      go_wp2
      go_roundw
      case rel => exact ⟨q + 1, by omega, by go_num, HRw.out, HB.out⟩
      case measure => simp [intOf]; omega
    · obtain rfl : q = 4 := by omega
      have hcv := conv_four wr w.heap.size f (hrow.congr (fun i hi => by rw [if_pos hi]))
      clear hrow
      go_wp2
      go_ret
      exact ⟨rfl, hB⟩

end Go.Proofs.YtachkoledebanabDoor
