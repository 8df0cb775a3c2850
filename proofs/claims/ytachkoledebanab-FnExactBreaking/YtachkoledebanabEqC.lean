/-
  eqChange, eqChangeS at two that read the same: true; markChangeS, heldChangeS.
-/
import Derived.Test.YtachkoledebanabChg
namespace Go.Proofs.Ytachkoledebanab
open Go.RowKit

attribute [local go_sem ↓] Go.wp_at_zero Go.wp_at_succ

set_option maxHeartbeats 400000 in
theorem eqChange_same (x y z : Int) (w : World) :
    Calls Try.prog 38 #[.agg #[.int .i64 x, .int .i64 y, .int .i64 z], .agg #[.int .i64 x, .int .i64 y, .int .i64 z]] w fun e w' => e = .returned (.bool true) ∧ Below w.heap.size w w' := by
  have z1 : (x != x) = false := by simp
  have z2 : (y != y) = false := by simp
  have z3 : (z != z) = false := by simp
  have bel : Below w.heap.size w ((w.alloc (.cells #[.int .i64 x, .int .i64 y, .int .i64 z] 63)).alloc (.cells #[.int .i64 x, .int .i64 y, .int .i64 z] 63)) := ((Below.refl _ _).alloc (Nat.le_refl _) _).alloc (by simp) _
  go_enter Try.func38, Try.ntmps38
  go_wp2
  go_ret
  exact ⟨rfl, bel⟩

/-- the slice's changes can be read -/
def SlC (w : World) (ao : Option Addr) (n : Nat) (f : Nat → Int × Int × Int) : Prop :=
  ∀ k, k < n → ∃ b, ao = some ⟨b, 0, none⟩ ∧ w.cell? ⟨b, k * 3, none⟩ = some (.int .i64 (f k).1) ∧ w.cell? ⟨b, k * 3 + 1, none⟩ = some (.int .i64 (f k).2.1) ∧ w.cell? ⟨b, k * 3 + 2, none⟩ = some (.int .i64 (f k).2.2)
theorem OwnC.sl {w : World} {lo hi n : Nat} {ao : Option Addr} {f : Nat → Int × Int × Int} (h : OwnC w lo hi ao n f) : SlC w ao n f := fun k hk => by
  obtain ⟨b, e, _, _, ⟨x1, x2, x3⟩, _⟩ := h k hk
  exact ⟨b, e, x1, x2, x3⟩
theorem SlC.keep {w w' : World} {n : Nat} {ao : Option Addr} {f : Nat → Int × Int × Int} (h : SlC w ao n f) (hb : Below w.heap.size w w') : SlC w' ao n f := fun k hk => by
  obtain ⟨b, e, x1, x2, x3⟩ := h k hk
  have hlt : b < w.heap.size := block_lt_of_cell x1
  exact ⟨b, e, (hb.cell (p := ⟨b, _, none⟩) hlt).trans x1, (hb.cell (p := ⟨b, _, none⟩) hlt).trans x2, (hb.cell (p := ⟨b, _, none⟩) hlt).trans x3⟩

set_option maxHeartbeats 2000000 in
set_option maxRecDepth 100000 in
theorem eqChangeS_same (ao bo : Option Addr) (n ca cb : Nat) (f : Nat → Int × Int × Int) (w : World) (hn : n ≤ 1048576) (ha : SlC w ao n f) (hb : SlC w bo n f) :
    Calls Try.prog 12 #[.slice ao n ca, .slice bo n cb] w fun e w' => e = .returned (.bool true) ∧ Below w.heap.size w w' := by
  have h0 : ((n : Int) != (n : Int)) = false := by simp
  go_enter Try.func12, Try.ntmps12
  go_wp2
  go_loopw [5] (fun i wr => ∃ k : Nat, k ≤ n ∧ i = .int .i64 k ∧ Below w.heap.size w wr) (fun i _ => n - (intOf i).toNat)
  case atStart => exact ⟨0, Nat.zero_le _, rfl, Below.refl _ _⟩
  case round =>
    obtain ⟨k, hk, rfl, hbw⟩ := hrel
    by_cases hlt : k < n
    · obtain ⟨b, rfl, x1, x2, x3⟩ := (ha.keep hbw) k hlt
      obtain ⟨b', rfl, y1, y2, y3⟩ := (hb.keep hbw) k hlt
      have hk0 : (0 : Int) ≤ (k : Int) := Int.natCast_nonneg _
      have hk1 : (k : Int) < (n : Int) := by omega
      obtain ⟨p, hp⟩ : ∃ p, p = (f k).1 := ⟨_, rfl⟩
      obtain ⟨q, hq⟩ : ∃ q, q = (f k).2.1 := ⟨_, rfl⟩
      obtain ⟨r, hr⟩ : ∃ r, r = (f k).2.2 := ⟨_, rfl⟩
      rw [← hp] at x1 y1
      rw [← hq] at x2 y2
      rw [← hr] at x3 y3
      have lb : b < wr.heap.size := block_lt_of_cell x1
      have lb' : b' < wr.heap.size := block_lt_of_cell y1
      clear hp hq hr ha hb
      go_wp2_with fail
      go_region_held3 (fun w' => w'.cell? ⟨b, k * 3, none⟩ = some (.int .i64 p) ∧ w'.cell? ⟨b, k * 3 + 1, none⟩ = some (.int .i64 q) ∧ w'.cell? ⟨b, k * 3 + 2, none⟩ = some (.int .i64 r) ∧ w'.cell? ⟨b', k * 3, none⟩ = some (.int .i64 p) ∧ w'.cell? ⟨b', k * 3 + 1, none⟩ = some (.int .i64 q) ∧ w'.cell? ⟨b', k * 3 + 2, none⟩ = some (.int .i64 r))
        (first | go_keep | (exact ⟨(hbc.cell (p := ⟨b, _, none⟩) lb).trans x1, (hbc.cell (p := ⟨b, _, none⟩) lb).trans x2, (hbc.cell (p := ⟨b, _, none⟩) lb).trans x3, (hbc.cell (p := ⟨b', _, none⟩) lb').trans y1, (hbc.cell (p := ⟨b', _, none⟩) lb').trans y2, (hbc.cell (p := ⟨b', _, none⟩) lb').trans y3⟩))
        ((go_at_call 38; refine (eqChange_same p q r _).mono ?_; rintro e w1 ⟨rfl, hbc⟩))
      have HB : Hid (Below w.heap.size w w1) := chain hbw.drew hbc
      clear hbc hbw x1 x2 x3 y1 y2 y3
      go_wp2
      go_roundw
      case rel => exact ⟨k + 1, by omega, by go_num, HB.out⟩
      case measure => simp [intOf]; omega
    · go_wp2
      go_ret
      exact ⟨rfl, hbw⟩

/-- what a store of all three leaves -/
theorem OwnC.store {w : World} {lo hi n b k : Nat} {f : Nat → Int × Int × Int} (h : OwnC w lo hi (some ⟨b, 0, none⟩) n f) (x y z : Int) :
    OwnC (((w.setCell ⟨b, k * 3, none⟩ (.int .i64 x)).setCell ⟨b, k * 3 + 1, none⟩ (.int .i64 y)).setCell ⟨b, k * 3 + 2, none⟩ (.int .i64 z)) lo hi (some ⟨b, 0, none⟩) n (fun j => if j = k then (x, y, z) else f j) := fun j hj => by
  obtain ⟨b', e, q1, q2, ⟨x1, x2, x3⟩, hf⟩ := h j hj
  obtain rfl : b = b' := by simpa using e
  refine ⟨b, rfl, q1, q2, ?_, fun i => by rw [World.frozen?_setCell, World.frozen?_setCell, World.frozen?_setCell]; exact hf i⟩
  have ne : ∀ (W : World) (p q : Nat) (v : Value), p ≠ q → (W.setCell ⟨b, q, none⟩ v).cell? ⟨b, p, none⟩ = W.cell? ⟨b, p, none⟩ := fun W p q v hpq => World.cell?_setCell_other W ⟨b, q, none⟩ ⟨b, p, none⟩ v (fun e => hpq (by cases e; rfl))
  by_cases ej : j = k
  · subst ej
    have g1 : (w.setCell ⟨b, j * 3, none⟩ (.int .i64 x)).cell? ⟨b, j * 3, none⟩ = some (.int .i64 x) := World.cell?_setCell_same _ _ _ x1
    have g2 : ((w.setCell ⟨b, j * 3, none⟩ (.int .i64 x)).setCell ⟨b, j * 3 + 1, none⟩ (.int .i64 y)).cell? ⟨b, j * 3 + 1, none⟩ = some (.int .i64 y) := World.cell?_setCell_same _ _ _ ((ne _ _ _ _ (by omega)).trans x2)
    have g3 := World.cell?_setCell_same ((w.setCell ⟨b, j * 3, none⟩ (.int .i64 x)).setCell ⟨b, j * 3 + 1, none⟩ (.int .i64 y)) ⟨b, j * 3 + 2, none⟩ (.int .i64 z) ((ne _ _ _ _ (by omega)).trans ((ne _ _ _ _ (by omega)).trans x3))
    show _ = some (Value.int .i64 (if j = j then (x, y, z) else f j).1) ∧ _ = some (Value.int .i64 (if j = j then (x, y, z) else f j).2.1) ∧ _ = some (Value.int .i64 (if j = j then (x, y, z) else f j).2.2)
    rw [if_pos rfl]
    exact ⟨(ne _ _ _ _ (by omega)).trans ((ne _ _ _ _ (by omega)).trans g1), (ne _ _ _ _ (by omega)).trans g2, g3⟩
  · show _ = some (Value.int .i64 (if j = k then (x, y, z) else f j).1) ∧ _ = some (Value.int .i64 (if j = k then (x, y, z) else f j).2.1) ∧ _ = some (Value.int .i64 (if j = k then (x, y, z) else f j).2.2)
    rw [if_neg ej]
    have far : ∀ (W : World) (p : Nat), (p < k * 3 ∨ k * 3 + 2 < p) → (((W.setCell ⟨b, k * 3, none⟩ (.int .i64 x)).setCell ⟨b, k * 3 + 1, none⟩ (.int .i64 y)).setCell ⟨b, k * 3 + 2, none⟩ (.int .i64 z)).cell? ⟨b, p, none⟩ = W.cell? ⟨b, p, none⟩ := fun W p hp =>
      (ne _ _ _ _ (by omega)).trans ((ne _ _ _ _ (by omega)).trans (ne _ _ _ _ (by omega)))
    exact ⟨(far _ _ (by omega)).trans x1, (far _ _ (by omega)).trans x2, (far _ _ (by omega)).trans x3⟩

set_option maxHeartbeats 1000000 in
theorem markChangeS_any (ao : Option Addr) (n cap lo hi : Nat) (f : Nat → Int × Int × Int) (k0 : Int) (w : World) (hn : n ≤ 1048576) (hk0 : 0 ≤ k0) (hk1 : k0 ≤ 1048576) (h : OwnC w lo hi ao n f) :
    Calls Try.prog 15 #[.slice ao n cap, .int .i64 k0] w fun e w' => e = .returned (.int .i64 (k0 + n * 3)) ∧ OwnC w' lo hi ao n (fun j => (k0 + j * 3, k0 + j * 3 + 1, k0 + j * 3 + 1 + 1)) ∧ Only lo hi w w' ∧ w'.heap.size = w.heap.size := by
  go_enter Try.func15, Try.ntmps15
  go_wp2
  go_loopw [1, 5] (fun q i wr => ∃ k : Nat, k ≤ n ∧ i = .int .i64 k ∧ q = .int .i64 (k0 + k * 3) ∧ OwnC wr lo hi ao n (fun j => if j < k then (k0 + j * 3, k0 + j * 3 + 1, k0 + j * 3 + 1 + 1) else f j) ∧ Only lo hi w wr ∧ wr.heap.size = w.heap.size) (fun _ i _ => n - (intOf i).toNat)
  case atStart => exact ⟨0, Nat.zero_le _, rfl, by simp, h.congr (fun j _ => by simp), .refl _ _ _, rfl⟩
  case round =>
    obtain ⟨k, hk, rfl, rfl, ho, hon, hsz⟩ := hrel
    by_cases hlt : k < n
    · obtain ⟨b, rfl, q1, q2, ⟨x1, x2, x3⟩, hf⟩ := ho k hlt
      have f1 := hf (k * 3)
      have f2 := hf (k * 3 + 1)
      have f3 := hf (k * 3 + 2)
      have HR : Hid (OwnC (((wr.setCell ⟨b, k * 3, none⟩ (.int .i64 (k0 + k * 3))).setCell ⟨b, k * 3 + 1, none⟩ (.int .i64 (k0 + k * 3 + 1))).setCell ⟨b, k * 3 + 2, none⟩ (.int .i64 (k0 + k * 3 + 1 + 1))) lo hi (some ⟨b, 0, none⟩) n (fun j => if j < k + 1 then (k0 + j * 3, k0 + j * 3 + 1, k0 + j * 3 + 1 + 1) else f j)) :=
        (ho.store (k := k) (k0 + k * 3) (k0 + k * 3 + 1) (k0 + k * 3 + 1 + 1)).congr (fun j _ => by
          by_cases e : j = k
          · subst e; simp
          · by_cases g : j < k
            · rw [if_neg e, if_pos g, if_pos (by omega)]
            · rw [if_neg e, if_neg g, if_neg (by omega)])
      have HO : Hid (Only lo hi w (((wr.setCell ⟨b, k * 3, none⟩ (.int .i64 (k0 + k * 3))).setCell ⟨b, k * 3 + 1, none⟩ (.int .i64 (k0 + k * 3 + 1))).setCell ⟨b, k * 3 + 2, none⟩ (.int .i64 (k0 + k * 3 + 1 + 1)))) := ((hon.setCell q1 q2 _).setCell q1 q2 _).setCell q1 q2 _
      have HS : Hid (wr.heap.size = w.heap.size) := hsz
      clear ho hon hsz h hf
      go_wp2
      go_roundw
      case rel => exact ⟨k + 1, by omega, by go_num, by go_num, HR.out, HO.out, by simpa using HS.out⟩
      case measure => simp [intOf]; omega
    · obtain rfl : k = n := by omega
      have HR : Hid (OwnC wr lo hi ao k (fun j => (k0 + j * 3, k0 + j * 3 + 1, k0 + j * 3 + 1 + 1))) := ho.congr (fun j hj => by rw [if_pos hj])
      clear ho h
      go_wp2
      go_ret
      exact ⟨rfl, HR.out, hon, hsz⟩

set_option maxHeartbeats 1000000 in
theorem heldChangeS_any (ao : Option Addr) (n cap : Nat) (k0 : Int) (w : World) (hn : n ≤ 1048576) (hk0 : 0 ≤ k0) (hk1 : k0 ≤ 1048576) (h : SlC w ao n (fun j => (k0 + j * 3, k0 + j * 3 + 1, k0 + j * 3 + 1 + 1))) :
    Calls Try.prog 16 #[.slice ao n cap, .int .i64 k0] w fun e w' => e = .returned (.int .i64 (k0 + n * 3)) ∧ w' = w := by
  go_enter Try.func16, Try.ntmps16
  go_wp2
  go_loop [1, 5] (fun q i => ∃ k : Nat, k ≤ n ∧ i = .int .i64 k ∧ q = .int .i64 (k0 + k * 3)) (fun _ i => n - (intOf i).toNat)
  case atStart => exact ⟨0, Nat.zero_le _, rfl, by simp⟩
  case round =>
    obtain ⟨k, hk, rfl, rfl⟩ := hrel
    by_cases hlt : k < n
    · obtain ⟨b, rfl, x1, x2, x3⟩ := h k hlt
      have z1 : ((k0 + (k : Int) * 3) != (k0 + (k : Int) * 3)) = false := by simp
      have z2 : ((k0 + (k : Int) * 3 + 1) != (k0 + (k : Int) * 3 + 1)) = false := by simp
      have z3 : ((k0 + (k : Int) * 3 + 1 + 1) != (k0 + (k : Int) * 3 + 1 + 1)) = false := by simp
      clear h
      go_wp2
      go_round
      case rel => exact ⟨k + 1, by omega, by go_num, by go_num⟩
      case measure => simp [intOf]; omega
    · obtain rfl : k = n := by omega
      clear h
      go_wp2
      go_ret
      exact ⟨rfl, rfl⟩

end Go.Proofs.Ytachkoledebanab
